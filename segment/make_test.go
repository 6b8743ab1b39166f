package segment_test

import (
	"math"
	"slices"
	"testing"

	"cedilla/api"
	"cedilla/segment"
)

// made finds out whether Make answers of a list the bytes that chapters 13 and 15 tell, and is these.
func made(t *testing.T, l ...api.Entry) string {
	t.Helper()
	was := slices.Clone(l)
	want := laid(t, len(l), built(t, l...))
	s, e := segment.Make(l...)
	if s != want || e != api.OK {
		t.Fatalf("Make(%s) is %s, %d, not %s", told(l), told(s), e, told(want))
	}
	if !slices.Equal(l, was) {
		t.Fatalf("Make changed %s to %s", told(was), told(l))
	}
	return s
}

// refused finds out whether Make answers of entries just this error.
func refused(t *testing.T, want api.Errno, l ...api.Entry) {
	t.Helper()
	was := slices.Clone(l)
	if s, e := segment.Make(l...); s != "" || e != want {
		t.Errorf("Make(%s) is %s, %d, not %d", told(l), told(s), e, want)
	}
	if !slices.Equal(l, was) {
		t.Errorf("Make changed %s to %s", told(was), told(l))
	}
}

// P16.1: the examples of the chapter.
func TestExamplesOfMake(t *testing.T) {
	made(t, of("a", 1), gone("b"))
	refused(t, api.ErrArg)
	refused(t, api.ErrOrder, of("b", 1), of("a", 1))
}

// P16.1: the bytes of some lists by hand.
func TestMakeByHand(t *testing.T) {
	for _, c := range []struct {
		l    []api.Entry
		body string
	}{
		{[]api.Entry{of("a", 4)}, "\x43\x53\x01\x01\x02\x01\x00\x02a\x00\x01\x05"},
		{[]api.Entry{gone("b")}, "\x43\x53\x01\x01\x02\x01\x00\x02b\x00\x01\x00"},
		{[]api.Entry{heavy("b", 9)}, "\x43\x53\x01\x01\x02\x01\x00\x02b\x00\x01\x00"},
		{[]api.Entry{of("\xff", math.MaxUint32)}, "\x43\x53\x01\x01\x02\x01\x00\x02\xff\x00\x01\xfc\x00\x00\x00\x00\x01"},
		{[]api.Entry{of("a", 1), gone("b")}, "\x43\x53\x01\x02\x02\x01\x00\x04a\x02\x01b\x00\x01\x00"},
		{[]api.Entry{of("a", 0), gone("ab")}, "\x43\x53\x01\x02\x03\x01\x00\x03\x01b\x00\x01\x02a\x00\x01\x00"},
		{[]api.Entry{of("a", 0), of("b", 2)}, "\x43\x53\x01\x02\x02\x01\x00\x04a\x00\x01b\x02\x01\x01"},
	} {
		if s := made(t, c.l...); s != sealed(c.body) {
			t.Errorf("Make(%s) is %s, not %s", told(c.l), told(s), told(sealed(c.body)))
		}
	}
}

// P16.1: lists of one entry: of each byte, each size of a word that may be, and each kind of value.
func TestMakeOfOneEntry(t *testing.T) {
	for b := range 256 {
		made(t, valued(string([]byte{byte(b)}), uint64(b)))
	}
	for size := 1; size <= 255; size++ {
		made(t, of(long(size), uint32(size)))
	}
	for _, v := range values() {
		made(t, valued("word", v))
	}
	made(t, heavy("word", 1))
	made(t, heavy("word", math.MaxUint32))
}

// P16.1: no entries, nil or not.
func TestMakeOfNoEntries(t *testing.T) {
	refused(t, api.ErrArg, nil...)
	refused(t, api.ErrArg, []api.Entry{}...)
	refused(t, api.ErrArg, many(3)[:0]...)
}

// P16.1: as many entries as there may be, and more.
func TestMakeOfManyEntries(t *testing.T) {
	for _, size := range []int{2, 3, 255, 256, 257, 65535, 65536, 65537, 99999, 100000} {
		made(t, many(size)...)
	}
	for _, size := range []int{100001, 100002, 131072, 200000, 300000} {
		refused(t, api.ErrArg, many(size)...)
	}
}

// P16.1: words that may not be, and words that don't rise, each at each place of a list.
func TestMakeOfNoList(t *testing.T) {
	for _, l := range samples() {
		for i := range len(l) + 1 {
			for _, w := range []string{"", long(256), long(257), long(511), long(512), long(1000), long(65537)} {
				refused(t, api.ErrInvalid, slices.Insert(slices.Clone(l), i, of(w, 1))...)
				refused(t, api.ErrInvalid, slices.Insert(slices.Clone(l), i, gone(w))...)
			}
			for at, e := range l {
				// One that is behind its place, ahead of it, or there twice.
				if at != i {
					refused(t, api.ErrOrder, slices.Insert(slices.Clone(l), i, e)...)
				}
			}
			if i < len(l) {
				e := l[i]
				e.Weight, e.Gone = e.Weight+1, false
				refused(t, api.ErrOrder, slices.Insert(slices.Clone(l), i, e)...)
			}
		}
	}
}

// P16.1, P1: of several things that are wrong the one is told that stands first in the list, but too many entries ahead of that.
func TestMakeOfSeveralWrongs(t *testing.T) {
	refused(t, api.ErrInvalid, of("", 1), of("b", 1), of("a", 1))
	refused(t, api.ErrOrder, of("b", 1), of("a", 1), of("", 1))
	refused(t, api.ErrOrder, of("b", 1), of("b", 1), of(long(256), 1))
	refused(t, api.ErrInvalid, of("b", 1), of(long(256), 1), of("b", 1))
	refused(t, api.ErrInvalid, of("b", 1), of("", 1))
	l := many(100001)
	for _, at := range []int{0, 1, 50000, 100000} {
		for _, w := range []string{"", long(256), "\x00"} {
			other := slices.Clone(l)
			other[at].Word = w
			refused(t, api.ErrArg, other...)
			want := api.ErrInvalid
			if w == "\x00" {
				want = api.ErrOrder
			}
			if at > 0 && at < 100000 {
				refused(t, want, other[:100000]...)
			}
		}
	}
}

// P16.1: lists whose words begin and end alike in many ways.
func TestMakeOfOtherLists(t *testing.T) {
	for _, l := range samples() {
		made(t, l...)
	}
	c := chance(1)
	for range 2000 {
		made(t, c.list(12, 6, "ab")...)
		made(t, c.list(30, 4, "ab\x00\xff")...)
	}
	for range 20 {
		made(t, c.list(5000, 9, "abcdeo")...)
		made(t, c.list(50, 255, "ab")...)
	}
}
