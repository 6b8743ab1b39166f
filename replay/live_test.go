package replay_test

import (
	"math"
	"slices"
	"strconv"
	"testing"

	"cedilla/api"
	"cedilla/replay"
)

// lives finds out whether Live answers these numbers, and that error.
func lives(t *testing.T, floor int, names []string, l []int, e api.Errno) {
	t.Helper()
	was := slices.Clone(names)
	got, why := replay.Live(floor, names...)
	if !slices.Equal(got, l) || why != e {
		t.Fatalf("Live(%d, %q) answers %d, %d; not %d, %d", floor, names, got, why, l, e)
	}
	if !slices.Equal(names, was) {
		t.Fatalf("Live(%d, %q) changes its names to %q", floor, was, names)
	}
}

// others are names that are no log's.
func others() []string {
	return []string{"", "x", "manifest", "manifest.tmp", "seg-1", "seg-2", "seg-3", "seg-900000001", "wal-", "wal-0", "wal-01", "wal-03", "wal-+2", "wal--1", "wal-2 ", " wal-2", "wal-2.tmp", "Wal-2", "wal-1000000001", "wal-99999999999999999999", "wal-18446744073709551617", "2"}
}

// The examples of the chapter.
func TestLiveExamples(t *testing.T) {
	lives(t, 2, []string{"wal-1", "wal-3", "wal-2", "x"}, []int{2, 3}, api.OK)
	lives(t, 2, []string{"wal-3"}, nil, api.ErrCorrupt)
	lives(t, 5, []string{"wal-4"}, nil, api.OK)
}

// P11.2: which floors may be, whatever names there are; MaxCount is what the chapter says.
func TestLiveFloors(t *testing.T) {
	if replay.MaxCount != mostCount {
		t.Fatalf("MaxCount is %d", replay.MaxCount)
	}
	for _, names := range [][]string{nil, {}, {"wal-1"}, {"wal-7", "wal-9"}, {log(mostCount + 1)}, others()} {
		for _, floor := range []int{math.MinInt, math.MinInt64, math.MinInt32, -mostCount, -2, -1, 0, mostCount + 1, mostCount + 2, mostNumber, mostNumber + 1, math.MaxInt32, math.MaxInt - 1, math.MaxInt} {
			lives(t, floor, names, nil, api.ErrArg)
		}
	}
	for _, floor := range []int{1, 2, 17, mostCount - 1, mostCount} {
		lives(t, floor, nil, nil, api.OK)
		lives(t, floor, []string{}, nil, api.OK)
		lives(t, floor, others(), nil, api.OK)
		lives(t, floor, []string{log(floor)}, []int{floor}, api.OK)
	}
}

// P11.2: with none at the floor, below it, and from it on.
func TestLiveAtTheFloor(t *testing.T) {
	lives(t, 1, []string{"wal-1"}, []int{1}, api.OK)
	lives(t, 1, []string{"wal-2"}, nil, api.ErrCorrupt)
	lives(t, 2, []string{"wal-1"}, nil, api.OK)
	lives(t, 5, []string{"wal-1", "wal-3", "wal-4"}, nil, api.OK)
	lives(t, 5, []string{"wal-1", "wal-5", "wal-3"}, []int{5}, api.OK)
	lives(t, 5, []string{"wal-4", "wal-6"}, nil, api.ErrCorrupt)
	lives(t, 5, []string{"wal-4", "wal-5", "wal-7"}, nil, api.ErrCorrupt)
	lives(t, 5, []string{"wal-5", "wal-6", "wal-7", "wal-9"}, nil, api.ErrCorrupt)
	lives(t, 5, []string{"wal-5", "wal-1000000000"}, nil, api.ErrCorrupt)
	lives(t, 9, []string{"wal-9", "wal-10", "wal-11"}, []int{9, 10, 11}, api.OK)
	lives(t, 99, []string{"wal-101", "wal-100", "wal-99", "wal-98", "wal-9"}, []int{99, 100, 101}, api.OK)
}

// P11.2: none may be above MaxCount, with a gap or without one.
func TestLiveAboveMaxCount(t *testing.T) {
	for _, x := range []struct {
		floor int
		logs  []int
		live  []int
		e     api.Errno
	}{
		{mostCount, []int{mostCount}, []int{mostCount}, api.OK},
		{mostCount, []int{mostCount - 1}, nil, api.OK},
		{mostCount, []int{mostCount + 1}, nil, api.ErrCorrupt},
		{mostCount, []int{mostCount, mostCount + 1}, nil, api.ErrCorrupt},
		{mostCount, []int{mostCount + 1, mostCount + 2, mostCount}, nil, api.ErrCorrupt},
		{mostCount, []int{mostCount - 1, mostCount}, []int{mostCount}, api.OK},
		{mostCount - 1, []int{mostCount, mostCount - 1}, []int{mostCount - 1, mostCount}, api.OK},
		{mostCount - 1, []int{mostCount, mostCount - 1, mostCount + 1}, nil, api.ErrCorrupt},
		{mostCount - 1, []int{mostCount}, nil, api.ErrCorrupt},
		{mostCount, []int{mostNumber}, nil, api.ErrCorrupt},
		{mostCount, []int{mostCount, mostNumber}, nil, api.ErrCorrupt},
		{1, []int{mostCount + 1}, nil, api.ErrCorrupt},
		{1, []int{1, mostCount}, nil, api.ErrCorrupt},
		{1, []int{1, 2, mostNumber}, nil, api.ErrCorrupt},
		{mostCount, []int{mostNumber + 1}, nil, api.OK},
		{mostCount, []int{mostCount, mostNumber + 1}, []int{mostCount}, api.OK},
	} {
		var names []string
		for _, n := range x.logs {
			names = append(names, log(n))
		}
		lives(t, x.floor, names, x.live, x.e)
		slices.Reverse(names)
		lives(t, x.floor, append(names, others()...), x.live, x.e)
	}
}

// P11.2: all sets of some logs, at all floors, in some orders, twice, and among others, held against the words.
func TestLiveSets(t *testing.T) {
	n := numbers(3)
	for set := range 1 << 8 {
		var names []string
		for i := range 8 {
			if set>>i&1 == 1 {
				names = append(names, log(i+1))
			}
		}
		for floor := -1; floor < 12; floor++ {
			l, e := liveByWords(floor, names)
			lives(t, floor, names, l, e)
			mixed := slices.Concat(names, others(), names)
			for i := range mixed {
				j := n.below(i + 1)
				mixed[i], mixed[j] = mixed[j], mixed[i]
			}
			lives(t, floor, mixed, l, e)
			slices.Reverse(mixed)
			lives(t, floor, mixed, l, e)
		}
	}
}

// P11.2: sets of logs whose numbers have unlike many digits, held against the words.
func TestLiveOfAnyNames(t *testing.T) {
	n := numbers(4)
	for _, first := range []int{1, 5, 95, 996, mostCount - 7, mostNumber - 5} {
		for range 3000 {
			var names []string
			for range n.below(9) {
				names = append(names, log(first+n.below(8)))
			}
			for range n.below(3) {
				names = append(names, pick(&n, others()))
			}
			floor := first + n.below(9) - 1
			l, e := liveByWords(floor, names)
			lives(t, floor, names, l, e)
		}
	}
}

// What Live answers is the caller's.
func TestLiveIsNew(t *testing.T) {
	names := []string{"wal-1", "wal-2", "wal-3"}
	l, _ := replay.Live(1, names...)
	l[0], l[2] = 9, 8
	_ = append(l[:1], 7)
	lives(t, 1, names, []int{1, 2, 3}, api.OK)
}

// P1: Live of very many names ends soon enough.
func TestLiveMany(t *testing.T) {
	const many = 200000
	var names []string
	var want []int
	for n := 2 * many; n > 0; n-- {
		names = append(names, log(n), "seg-"+strconv.Itoa(n))
	}
	for n := many; n <= 2*many; n++ {
		want = append(want, n)
	}
	got, e := replay.Live(many, names...)
	if !slices.Equal(got, want) || e != api.OK {
		t.Errorf("there are %d, %d", len(got), e)
	}
}
