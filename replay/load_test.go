package replay_test

import (
	"math"
	"reflect"
	"slices"
	"strconv"
	"strings"
	"testing"

	"cedilla/api"
	"cedilla/disk"
	"cedilla/replay"
)

// loads finds out whether Load answers that, and leaves the disk as it was, with no step done.
func loads(t *testing.T, what string, d *disk.Disk, floor int, want replay.Found, e api.Errno) {
	t.Helper()
	was, steps := d.Copy(), d.Steps()
	got, why := replay.Load(d, floor)
	if !same(got, want) || why != e {
		t.Fatalf("%s: Load(%d) answers %v, %d; not %v, %d", what, floor, got, why, want, e)
	}
	if e != api.OK && !reflect.ValueOf(got).IsZero() {
		t.Fatalf("%s: Load(%d) answers %v beside an error", what, floor, got)
	}
	if d.Steps() != steps || d.Down() != was.Down() || !slices.Equal(d.Files(), was.Files()) {
		t.Fatalf("%s: Load(%d) does %d steps; there are %q, not %q", what, floor, d.Steps()-steps, d.Files(), was.Files())
	}
}

// loadsByWords finds out whether Load answers what the words say of the disk's files.
func loadsByWords(t *testing.T, what string, d *disk.Disk, floor int) {
	t.Helper()
	want, e := loadByWords(d.Files(), floor)
	loads(t, what, d, floor, want, e)
}

// The examples of the chapter.
func TestLoadExamples(t *testing.T) {
	b2 := api.Entry{Word: "b", Weight: 2}
	d := diskOf("wal-1", framed(a), "wal-2", framed(b2)+"xy")
	loads(t, "the third example", d, 1, replay.Found{Logs: []int{1, 2}, Entries: []api.Entry{a, b2}, Good: 8, Torn: true}, api.OK)
	d = diskOf("wal-1", framed(a)+"xy", "wal-2", framed(b2))
	loads(t, "the fourth example", d, 1, replay.Found{}, api.ErrCorrupt)
}

// P11.3: of no disk, and of one that is down, whatever the floor, and whatever is on it.
func TestLoadOfNoDisk(t *testing.T) {
	for _, floor := range []int{math.MinInt, -1, 0, 1, 2, 5, mostCount, mostCount + 1, math.MaxInt} {
		loads(t, "no disk", nil, floor, replay.Found{}, api.ErrNil)
		for what, d := range map[string]*disk.Disk{
			"a disk without files":    down(),
			"one with a log":          down("wal-1", framed(a)),
			"one with a gap":          down("wal-1", framed(a), "wal-3", framed(a)),
			"one that is torn before": down("wal-1", framed(a)+"x", "wal-2", framed(a)),
		} {
			loads(t, what+", down", d, floor, replay.Found{}, api.ErrCrash)
		}
	}
}

// P11.3: Live's errors, whatever the logs have.
func TestLoadOfWhatMayNotBe(t *testing.T) {
	torn := diskOf("wal-2", framed(a)+"x", "wal-3", framed(b), "wal-5", "x")
	for _, floor := range []int{math.MinInt, -1, 0, mostCount + 1, math.MaxInt} {
		loads(t, "a floor that may not be", torn, floor, replay.Found{}, api.ErrArg)
		loads(t, "a floor that may not be, no logs", diskOf(), floor, replay.Found{}, api.ErrArg)
	}
	for _, floor := range []int{1, 2, 3, 4} {
		loads(t, "a gap", torn, floor, replay.Found{}, api.ErrCorrupt)
	}
	loads(t, "the last one alone", torn, 5, replay.Found{Logs: []int{5}, Torn: true}, api.OK)
	loads(t, "none at the floor", diskOf("wal-2", framed(a)), 1, replay.Found{}, api.ErrCorrupt)
	loads(t, "MaxCount", diskOf(log(mostCount), framed(a)), mostCount, replay.Found{Logs: []int{mostCount}, Entries: []api.Entry{a}, Good: 8}, api.OK)
	loads(t, "above MaxCount", diskOf(log(mostCount), framed(a), log(mostCount+1), framed(a)), mostCount, replay.Found{}, api.ErrCorrupt)
	loads(t, "above MaxCount alone", diskOf(log(mostCount+1), framed(a)), mostCount, replay.Found{}, api.ErrCorrupt)
}

// P11.3: without live logs nothing is found, and all is zero.
func TestLoadWithoutLogs(t *testing.T) {
	for what, d := range map[string]*disk.Disk{
		"a new disk":            disk.New(0),
		"a zero disk":           {},
		"other files":           diskOf("manifest", framed(a), "x", "", "wal-07", framed(a), "seg-7", framed(b)),
		"logs below the floor":  diskOf("wal-1", framed(a)+"x", "wal-3", "torn", "wal-6", "torn"),
		"one without any bytes": diskOf("wal-6", ""),
	} {
		loads(t, what, d, 7, replay.Found{}, api.OK)
	}
}

// P11.3: one log, of which each thing that Read may find is found.
func TestLoadOfOne(t *testing.T) {
	l := []api.Entry{a, b, c}
	s := framed(l...)
	for at := range len(s) + 1 {
		for _, more := range []string{"", "\x00", "\x03", frameOf("\x03a"), frameOf("\x03a") + framed(a)} {
			read, good := readByWords(s[:at] + more)
			want := replay.Found{Logs: []int{4}, Entries: read, Good: good, Torn: good < at+len(more)}
			loads(t, "one log", diskOf("wal-4", s[:at]+more), 4, want, api.OK)
			loads(t, "one live log", diskOf("manifest", "m", "wal-2", s[:at], "wal-3", "torn", "wal-4", s[:at]+more, "x", s), 4, want, api.OK)
			loads(t, "one log at another floor", diskOf("wal-4", s[:at]+more), 3, replay.Found{}, api.ErrCorrupt)
		}
	}
	loads(t, "no bytes", diskOf("wal-1", ""), 1, replay.Found{Logs: []int{1}}, api.OK)
	loads(t, "whole", diskOf("wal-1", s), 1, replay.Found{Logs: []int{1}, Entries: l, Good: len(s)}, api.OK)
	loads(t, "torn", diskOf("wal-1", s+"x"), 1, replay.Found{Logs: []int{1}, Entries: l, Good: len(s), Torn: true}, api.OK)
	loads(t, "nothing good", diskOf("wal-1", "torn"), 1, replay.Found{Logs: []int{1}, Torn: true}, api.OK)
}

// P11.3: many logs, in the order of their numbers, not of their names; Good is the last one's alone.
func TestLoadOfMany(t *testing.T) {
	var l []string
	var logs []int
	var entries []api.Entry
	good := 0
	for n := 8; n <= 103; n++ {
		e := []api.Entry{{Word: strconv.Itoa(n), Weight: uint32(n)}, {Word: "gone", Gone: true}}[:n%3]
		l = append(l, log(n), framed(e...))
		logs = append(logs, n)
		entries = append(entries, e...)
		good = len(framed(e...))
	}
	want := replay.Found{Logs: logs, Entries: entries, Good: good}
	loads(t, "many", diskOf(l...), 8, want, api.OK)
	want.Torn = true
	torn := slices.Clone(l)
	torn[len(torn)-1] += "x"
	loads(t, "many, torn in the last one", diskOf(torn...), 8, want, api.OK)
	for i := 1; i < len(l)-1; i += 2 {
		for _, more := range []string{"x", "\x00", frameOf("\x03"), framed(a)[:7]} {
			torn = slices.Clone(l)
			torn[i] += more
			loads(t, "many, torn in one before", diskOf(torn...), 8, replay.Found{}, api.ErrCorrupt)
			torn[len(torn)-1] += more
			loads(t, "many, torn in one before, and in the last one", diskOf(torn...), 8, replay.Found{}, api.ErrCorrupt)
			loadsByWords(t, "many, torn below the floor", diskOf(torn...), 8+i/2+1)
		}
	}
}

// P11.3: each floor of a row of logs finds what is from it on.
func TestLoadAtFloors(t *testing.T) {
	d := diskOf("wal-3", framed(a), "wal-4", framed(b, b), "wal-5", "", "wal-6", framed(c)+"x")
	loads(t, "all", d, 3, replay.Found{Logs: []int{3, 4, 5, 6}, Entries: []api.Entry{a, b, b, c}, Good: 8, Torn: true}, api.OK)
	loads(t, "from 4", d, 4, replay.Found{Logs: []int{4, 5, 6}, Entries: []api.Entry{b, b, c}, Good: 8, Torn: true}, api.OK)
	loads(t, "from 5", d, 5, replay.Found{Logs: []int{5, 6}, Entries: []api.Entry{c}, Good: 8, Torn: true}, api.OK)
	loads(t, "from 6", d, 6, replay.Found{Logs: []int{6}, Entries: []api.Entry{c}, Good: 8, Torn: true}, api.OK)
	loads(t, "behind all", d, 7, replay.Found{}, api.OK)
	loads(t, "ahead of all", d, 2, replay.Found{}, api.ErrCorrupt)
}

// P11.3: any logs, held against the words.
func TestLoadOfAny(t *testing.T) {
	n := numbers(5)
	for range 5000 {
		first := pick(&n, []int{1, 9, mostCount - 2})
		var l []string
		for i := range n.below(5) {
			s := framed(n.entries(3)...)
			switch n.below(12) {
			case 0:
				continue
			case 1:
				s += frameOf(pick(&n, noEntries()))
			case 2:
				s = s[:n.below(len(s)+1)]
			}
			l = append(l, log(first+i), s)
		}
		if n.below(2) == 0 && len(l) > 0 {
			l[len(l)-1] += pick(&n, noFrames())
		}
		loadsByWords(t, "any logs", diskOf(append(l, "x", "y", "seg-3", "z")...), first+n.below(3)-n.below(2))
	}
}

// P11.3: it finds what is read, durable or not, and does no step, though the disk would stop at the next one.
func TestLoadDoesNoStep(t *testing.T) {
	d := diskOf("wal-1", framed(a), "wal-2", framed(b)+"torn")
	d.Append("wal-1", framed(c))
	d.Truncate("wal-2", 9)
	d.Create("wal-3")
	d.Append("wal-3", "x")
	d.Create("y")
	was := d.Copy()
	d.Arm(1)
	loads(t, "torn before", d, 1, replay.Found{}, api.ErrCorrupt)
	loads(t, "from 3", d, 3, replay.Found{Logs: []int{3}, Torn: true}, api.OK)
	d.Arm(0)
	d.Remove("wal-3")
	d.Arm(1)
	loads(t, "behind acts", d, 1, replay.Found{Logs: []int{1, 2}, Entries: []api.Entry{a, c, b}, Good: 7, Torn: true}, api.OK)
	if d.SyncDir() != api.ErrCrash {
		t.Error("it is not armed any more")
	}
	loads(t, "behind the stop", d, 1, replay.Found{}, api.ErrCrash)
	d = was.Copy()
	replay.Load(d, 1)
	staysAlike(t, "behind a Load", d, was)
}

// P11.3: behind a restart it finds what stayed.
func TestLoadBehindARestart(t *testing.T) {
	d := diskOf("wal-1", framed(a))
	d.Append("wal-1", framed(b))
	d.Create("wal-2")
	for _, x := range []struct {
		row  []uint16
		want replay.Found
	}{
		{nil, replay.Found{Logs: []int{1}, Entries: []api.Entry{a}, Good: 8}},
		{[]uint16{0, 0, 4}, replay.Found{Logs: []int{1}, Entries: []api.Entry{a}, Good: 8, Torn: true}},
		{[]uint16{0, 1}, replay.Found{Logs: []int{1}, Entries: []api.Entry{a, b}, Good: 15}},
		{[]uint16{1, 1}, replay.Found{Logs: []int{1, 2}, Entries: []api.Entry{a, b}}},
		{[]uint16{1}, replay.Found{Logs: []int{1, 2}, Entries: []api.Entry{a}}},
	} {
		behind := d.Copy()
		behind.Arm(1)
		behind.SyncDir()
		behind.Restart(x.row)
		loads(t, "behind a restart", behind, 1, x.want, api.OK)
	}
}

// What Load answers is the caller's, and nothing of the disk.
func TestLoadIsNew(t *testing.T) {
	d := diskOf("wal-1", framed(a, b), "wal-2", framed(c)+"x")
	want, _ := loadByWords(d.Files(), 1)
	f, _ := replay.Load(d, 1)
	f.Logs[0], f.Entries[0], f.Entries[1].Word = 9, c, "changed"
	_ = append(f.Entries[:1], c, c)
	loads(t, "again", d, 1, want, api.OK)
	f, _ = replay.Load(d, 1)
	d.Truncate("wal-1", 0)
	d.Remove("wal-2")
	if !same(f, want) {
		t.Errorf("what was found is %v now", f)
	}
}

// P1: Load of very many logs, and of long ones, ends soon enough.
func TestLoadMany(t *testing.T) {
	const many = 20000
	var l []string
	for n := range many {
		l = append(l, log(n+1), framed(a, b))
	}
	long := strings.Repeat(framed(a, b), 10*many)
	for n, last := range []string{framed(a, b), long} {
		l[len(l)-1] = last
		f, e := replay.Load(diskOf(l...), 1)
		entries := 2*many - 2 + len(last)/15*2
		if e != api.OK || len(f.Logs) != many || len(f.Entries) != entries || f.Good != len(last) || f.Torn {
			t.Errorf("%d: Load answers %d logs, %d entries, %d, %t, %d", n, len(f.Logs), len(f.Entries), f.Good, f.Torn, e)
		}
	}
}
