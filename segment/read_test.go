package segment_test

import (
	"math"
	"slices"
	"strings"
	"testing"

	"cedilla/api"
	"cedilla/segment"
)

// getIs finds out whether Get answers this entry of its word.
func getIs(t *testing.T, x *segment.Segment, want api.Entry) {
	t.Helper()
	if e, is := x.Get(want.Word); e != want || !is {
		t.Fatalf("Get(%s) is %s, %t, not %s", told(want.Word), told(e), is, told(want))
	}
}

// hasNone finds out whether Get answers that a word has no entry.
func hasNone(t *testing.T, x *segment.Segment, w string) {
	t.Helper()
	if e, is := x.Get(w); e != (api.Entry{}) || is {
		t.Fatalf("Get(%s) is %s, %t", told(w), told(e), is)
	}
}

// fromIs finds out whether From answers just these entries.
func fromIs(t *testing.T, x *segment.Segment, w string, n int, want ...api.Entry) {
	t.Helper()
	if l := x.From(w, n); !slices.Equal(l, want) {
		t.Fatalf("From(%s, %d) is %s, not %s", told(w), n, told(l), told(want))
	}
}

// texts is words of a list, and others: beginnings of them, such as go beyond them, are next to them, and none.
func texts(l []api.Entry) []string {
	all := []string{"", "\x00", "\xff", "m", long(255), long(256), long(300), strings.Repeat("\xff", 256)}
	for _, e := range l {
		w := e.Word
		last := w[len(w)-1]
		all = append(all, w, w[:len(w)-1], w[:len(w)/2], w+"\x00", w+"\xff", w+w, w[1:])
		all = append(all, w[:len(w)-1]+string([]byte{last + 1}), w[:len(w)-1]+string([]byte{last - 1}), w[:len(w)-1]+string([]byte{last - 1, 0xff}))
	}
	slices.Sort(all)
	return slices.Compact(all)
}

// numbers is how many entries are asked for, of a list of so many.
func numbers(size int) []int {
	return []int{math.MinInt, -size, -1, 0, 1, 2, size - 1, size, size + 1, 100000, 100001, math.MaxInt}
}

// fromOf is the first n entries of words that are not less than w, as chapter 14 tells them.
func fromOf(l []api.Entry, w string, n int) []api.Entry {
	var some []api.Entry
	for _, e := range l {
		if e.Word >= w && len(some) < n {
			some = append(some, e)
		}
	}
	return some
}

// reads finds out whether all that is asked of the segment of a list is what the list says.
func reads(t *testing.T, l []api.Entry) {
	t.Helper()
	s := made(t, l...)
	x := opened(t, s)
	want := plain(l)
	if x.Len() != len(l) || x.Size() != len(s) {
		t.Fatalf("of %s Len is %d, Size %d, not %d, %d", told(l), x.Len(), x.Size(), len(l), len(s))
	}
	if all := x.All(); !slices.Equal(all, want) {
		t.Fatalf("of %s All is %s", told(l), told(all))
	}
	if f := x.Fst(); !same(f, built(t, l...)) {
		t.Fatalf("of %s Fst is %s", told(l), told(f))
	}
	has := map[string]int{}
	for i, e := range want {
		getIs(t, x, e)
		has[e.Word] = i + 1
	}
	for _, w := range texts(l) {
		if has[w] == 0 {
			hasNone(t, x, w)
		}
		for _, n := range numbers(len(l)) {
			fromIs(t, x, w, n, fromOf(want, w, n)...)
		}
	}
}

// P16.2: all that is asked of the sample lists.
func TestReads(t *testing.T) {
	for _, l := range samples() {
		reads(t, l)
	}
	reads(t, []api.Entry{heavy("a", 3), of("b", 2), heavy("c", math.MaxUint32)})
	reads(t, many(300))
	for _, v := range values() {
		reads(t, []api.Entry{valued("word", v)})
		reads(t, []api.Entry{of("wor", 3), valued("word", v), gone("work")})
	}
	for size := 1; size <= 255; size++ {
		reads(t, []api.Entry{of(long(size), uint32(size))})
	}
}

// P16.2: lists whose words begin and end alike in many ways.
func TestReadsOthers(t *testing.T) {
	c := chance(3)
	for range 300 {
		reads(t, c.list(8, 5, "ab"))
		reads(t, c.list(15, 4, "ab\x00\xff"))
	}
	reads(t, c.list(20, 255, "ab"))
}

// P16.2: the first entries from a word on, by hand.
func TestFromByHand(t *testing.T) {
	x := opened(t, made(t, of("an", 2), gone("ant"), of("bee", 7)))
	an, ant, bee := of("an", 2), gone("ant"), of("bee", 7)
	fromIs(t, x, "", 9, an, ant, bee)
	fromIs(t, x, "", 3, an, ant, bee)
	fromIs(t, x, "", 2, an, ant)
	fromIs(t, x, "an", 1, an)
	fromIs(t, x, "ann", 1, ant)
	fromIs(t, x, "ant", 9, ant, bee)
	fromIs(t, x, "anta", 9, bee)
	fromIs(t, x, "b", 9, bee)
	fromIs(t, x, "bee", 9, bee)
	fromIs(t, x, "beef", 9)
	fromIs(t, x, "c", 9)
	fromIs(t, x, "", 0)
	fromIs(t, x, "", -1)
	getIs(t, x, an)
	getIs(t, x, ant)
	getIs(t, x, bee)
	for _, w := range []string{"", "a", "b", "be", "antb", "beef", "c"} {
		hasNone(t, x, w)
	}
}

// P16.2: as many entries as there may be.
func TestReadsOfManyEntries(t *testing.T) {
	l := many(100000)
	s := made(t, l...)
	x := opened(t, s)
	if x.Len() != 100000 || x.Size() != len(s) || !slices.Equal(x.All(), plain(l)) {
		t.Fatalf("of %s: %d, %d, %s", told(l), x.Len(), x.Size(), told(x.All()))
	}
	for _, at := range []int{0, 1, 255, 256, 50000, 65535, 65536, 99998, 99999} {
		getIs(t, x, l[at])
		for _, n := range []int{1, 2, 100, 100000, math.MaxInt} {
			fromIs(t, x, l[at].Word, n, l[at:min(100000, at+min(n, 100000))]...)
			fromIs(t, x, l[at].Word+"\x00", n, l[at+1:min(100000, at+1+min(n, 100000))]...)
		}
	}
	hasNone(t, x, "")
	hasNone(t, x, "\x00\x00")
	hasNone(t, x, "\x01\x86\xa0")
	fromIs(t, x, "\x01\x86\xa0", 9)
}

// nothing finds out whether all that is asked of a segment answers that it has nothing.
func nothing(t *testing.T, x *segment.Segment) {
	t.Helper()
	if x.Len() != 0 || x.Size() != 0 || len(x.All()) != 0 {
		t.Errorf("it has %d, %d, %s", x.Len(), x.Size(), told(x.All()))
	}
	if f := x.Fst(); len(f.States) != 0 || f.Init != 0 {
		t.Errorf("Fst is %s", told(f))
	}
	for _, w := range []string{"", "a", "\x00", long(255), long(256), long(100000)} {
		hasNone(t, x, w)
		for _, n := range numbers(0) {
			fromIs(t, x, w, n)
		}
	}
}

// P16.2, P1: a segment that is none, and one that Open did not make, have nothing.
func TestNoSegment(t *testing.T) {
	nothing(t, nil)
	nothing(t, &segment.Segment{})
	x, _ := segment.Open("")
	nothing(t, x)
}

// P16.2: what is answered is the caller's: to change it changes nothing in the segment, nor in other answers.
func TestAnswersAreNew(t *testing.T) {
	for _, l := range append(samples(), many(300)) {
		s := made(t, l...)
		x, other := opened(t, s), opened(t, s)
		all, some, f, again := x.All(), x.From("", len(l)), x.Fst(), x.Fst()
		for i := range l {
			all[i] = of("changed", 9)
		}
		for i := range f.States {
			// What stands behind a list in memory would be changed.
			_ = append(f.States[i].Arcs[:len(f.States[i].Arcs)], slices.Repeat([]api.Arc{arc(9, 9, 9)}, 300)...)
			_ = append(f.States[i].Arcs, arc(8, 8, 8))
		}
		_ = append(f.States, final(9))
		_ = append(some, of("more", 9))
		if want := built(t, l...); !same(f, want) || !same(again, want) || !slices.Equal(some, plain(l)) {
			t.Fatalf("of %s came %s, %s, %s", told(l), told(f), told(again), told(some))
		}
		for i := range f.States {
			for j := range f.States[i].Arcs {
				f.States[i].Arcs[j] = arc(7, 7, 7)
			}
			f.States[i] = final(7)
		}
		for _, x := range []*segment.Segment{x, other} {
			if !slices.Equal(x.All(), plain(l)) || !same(x.Fst(), again) || x.Len() != len(l) || x.Size() != len(s) {
				t.Fatalf("of %s became %s, %s", told(l), told(x.All()), told(x.Fst()))
			}
		}
	}
}

// P16.1: what is handed in is not kept, nor what stands behind it changed.
func TestMakeKeepsNothing(t *testing.T) {
	for _, l := range samples() {
		want := made(t, l...)
		room := append(slices.Clone(l), of("behind", 1), gone("it"))
		s, _ := segment.Make(room[:len(l)]...)
		if !slices.Equal(room, append(slices.Clone(l), of("behind", 1), gone("it"))) {
			t.Fatalf("Make changed what stands behind %s to %s", told(l), told(room))
		}
		x := opened(t, s)
		for i := range room {
			room[i] = of("other", 7)
		}
		if s != want || !slices.Equal(x.All(), plain(l)) {
			t.Fatalf("%s became %s", told(want), told(s))
		}
	}
}

// P16.2: segments are asked again and again, and answer the same.
func TestAskedAgain(t *testing.T) {
	l := samples()[5]
	x := opened(t, made(t, l...))
	for range 3 {
		for i, e := range l {
			getIs(t, x, e)
			hasNone(t, x, e.Word+"s")
			fromIs(t, x, e.Word, 2, l[i:min(i+2, len(l))]...)
		}
		if !slices.Equal(x.All(), l) || !same(x.Fst(), built(t, l...)) {
			t.Fatalf("%s became %s", told(l), told(x.All()))
		}
	}
}
