package cursor_test

import (
	"fmt"
	"math"
	"slices"
	"strconv"
	"strings"
	"testing"

	"cedilla/api"
	"cedilla/cursor"
	"cedilla/segment"
	"cedilla/trie"
)

// of is an entry with a weight.
func of(w string, weight uint32) api.Entry { return api.Entry{Word: w, Weight: weight} }

// gone is an entry of a word that is gone.
func gone(w string) api.Entry { return api.Entry{Word: w, Gone: true} }

// valued is the entry of a value, as chapter 5 tells it.
func valued(w string, value uint64) api.Entry {
	if value == 0 {
		return gone(w)
	}
	return of(w, uint32(value-1))
}

// values is ordinary ones of entries, and edges: of what is gone, of the weight 0, of the greatest.
func values() []uint64 { return []uint64{0, 1, 2, 3, 250, 1 << 31, 1<<32 - 1, 1 << 32} }

// long is a text of so many bytes.
func long(size int) string { return strings.Repeat("w", size) }

// allBytes are all that there are, rising.
func allBytes() []byte {
	l := make([]byte, 256)
	for i := range l {
		l[i] = byte(i)
	}
	return l
}

// row is a row and b.
func row(s string, b byte) string { return s + string([]byte{b}) }

// told is anything as a text, or its beginning, what could not be printed quoted.
func told(x any) string {
	text := strconv.QuoteToASCII(fmt.Sprintf("%+v", x))
	if len(text) > 400 {
		text = text[:400] + ".."
	}
	return text
}

// opened is the segment of a list.
func opened(t *testing.T, l ...api.Entry) *segment.Segment {
	t.Helper()
	s, e := segment.Make(l...)
	if e != api.OK {
		t.Fatalf("Make(%s) answers %d", told(l), e)
	}
	x, e := segment.Open(s)
	if e != api.OK {
		t.Fatalf("Open of the bytes of %s answers %d", told(l), e)
	}
	return x
}

// both is the cursors at the roots of a list's trie and segment (of no entries: of the trie alone).
func both(t *testing.T, l ...api.Entry) []cursor.Cursor {
	t.Helper()
	c := []cursor.Cursor{cursor.OfTrie(trie.New(l...))}
	if len(l) > 0 {
		c = append(c, cursor.OfSegment(opened(t, l...)))
	}
	return c
}

// rows is all rows at which cursors of a list are there, as the chapter's words tell it.
func rows(l []api.Entry) []string {
	all := []string{""}
	for _, e := range l {
		for i := range len(e.Word) {
			all = append(all, e.Word[:i+1])
		}
	}
	slices.Sort(all)
	return slices.Compact(all)
}

// under is the entries of a list whose words begin so.
func under(l []api.Entry, begin string) []api.Entry {
	var some []api.Entry
	for _, e := range l {
		if strings.HasPrefix(e.Word, begin) {
			some = append(some, e)
		}
	}
	return some
}

// behind is the bytes with which words of a list go on behind a row, rising.
func behind(l []api.Entry, begin string) []byte {
	var some []byte
	for _, e := range under(l, begin) {
		if e.Word != begin {
			some = append(some, e.Word[len(begin)])
		}
	}
	slices.Sort(some)
	return slices.Compact(some)
}

// isNone finds out whether a cursor is one that is not there, and has nothing.
func isNone(t *testing.T, c cursor.Cursor) {
	t.Helper()
	if c.There() || c.Row() != "" || c != (cursor.Cursor{}) {
		t.Fatalf("it is at %s, there: %t", told(c.Row()), c.There())
	}
	if e, is := c.Entry(); e != (api.Entry{}) || is {
		t.Fatalf("it has the entry %s, %t", told(e), is)
	}
	if l := c.Bytes(); len(l) != 0 {
		t.Fatalf("it goes on with % x", l)
	}
	if l, n := c.All(), c.Many(); len(l) != 0 || n != 0 {
		t.Fatalf("it has all of %s, %d", told(l), n)
	}
	for b := range 256 {
		if next, is := c.Step(byte(b)); next != (cursor.Cursor{}) || is {
			t.Fatalf("it steps by %x to %s, %t", b, told(next.Row()), is)
		}
	}
	for _, l := range [][]string{nil, {""}, {"", ""}, {"a"}, {"\x00"}, {"", "a"}, {"ab", "c"}, {long(300)}} {
		if next, is := c.Seek(l...); next != (cursor.Cursor{}) || is {
			t.Fatalf("it seeks %s, and finds %s, %t", told(l), told(next.Row()), is)
		}
	}
}

// isAt finds out whether a cursor of a list is in all that can be asked, but for where it steps, what the words say of this row.
func isAt(t *testing.T, c cursor.Cursor, l []api.Entry, row string) {
	t.Helper()
	if !c.There() || c.Row() != row {
		t.Fatalf("of %s one is at %s, %t, not at %s", told(l), told(c.Row()), c.There(), told(row))
	}
	want, has := api.Entry{}, false
	for _, e := range l {
		if e.Word == row {
			want, has = e, true
		}
	}
	if e, is := c.Entry(); e != want || is != has {
		t.Fatalf("of %s at %s Entry is %s, %t", told(l), told(row), told(e), is)
	}
	if b := c.Bytes(); !slices.Equal(b, behind(l, row)) {
		t.Fatalf("of %s at %s Bytes are % x", told(l), told(row), b)
	}
	if all := c.All(); !slices.Equal(all, under(l, row)) {
		t.Fatalf("of %s at %s All is %s", told(l), told(row), told(all))
	}
	if n := c.Many(); n != len(under(l, row)) {
		t.Fatalf("of %s at %s Many is %d", told(l), told(row), n)
	}
}

// walks finds out of a cursor of a list, and of all to which Step leads from it, by any byte, whether they are what the words say; and tells the rows of all of them.
func walks(t *testing.T, c cursor.Cursor, l []api.Entry, at string) []string {
	t.Helper()
	isAt(t, c, l, at)
	on := behind(l, at)
	all := []string{at}
	for _, b := range allBytes() {
		next, is := c.Step(b)
		if is != slices.Contains(on, b) {
			t.Fatalf("of %s at %s Step by %x is %t", told(l), told(at), b, is)
		}
		if !is {
			isNone(t, next)
			continue
		}
		all = append(all, walks(t, next, l, row(at, b))...)
	}
	isAt(t, c, l, at)
	return all
}

// walksAll finds out whether a cursor at the root leads to just the rows of a list, in order.
func walksAll(t *testing.T, c cursor.Cursor, l []api.Entry) {
	t.Helper()
	if all := walks(t, c, l, ""); !slices.Equal(all, rows(l)) {
		t.Fatalf("of %s are there %s", told(l), told(all))
	}
}

// chance makes the same row of numbers in each run.
type chance uint64

func (c *chance) below(most int) int {
	*c = *c*6364136223846793005 + 1442695040888963407
	return int(uint64(*c)>>33) % most
}

// text is one of 1 to so many bytes, all of them bytes of these.
func (c *chance) text(size int, bytes string) string {
	s := make([]byte, 1+c.below(size))
	for i := range s {
		s[i] = bytes[c.below(len(bytes))]
	}
	return string(s)
}

// list is one of at most so many entries, of words of at most so many bytes out of some, so that they often begin and end alike.
func (c *chance) list(entries, size int, bytes string) []api.Entry {
	some := map[string]uint64{}
	for range 1 + c.below(entries) {
		some[c.text(size, bytes)] = values()[c.below(len(values()))]
	}
	var l []api.Entry
	for w, v := range some {
		l = append(l, valued(w, v))
	}
	slices.SortFunc(l, func(a, b api.Entry) int { return strings.Compare(a.Word, b.Word) })
	return l
}

// samples are lists of all kinds, all of few entries.
func samples() [][]api.Entry {
	l := [][]api.Entry{
		{of("a", 4)},
		{of("a", 0)},
		{gone("a")},
		{gone("\x00")},
		{of("\xff", math.MaxUint32)},
		{of("a", 1), gone("b")},
		{of("a", 0), gone("ab"), of("abc", 0)},
		{of("a", math.MaxUint32), of("ab", math.MaxUint32), gone("abc"), of("b", math.MaxUint32)},
		{gone("tea"), of("ten", 4), of("to", 1)},
		{of("car", 1), of("card", 2), of("cat", 3)},
		{of("blue", 7), of("green", 7), gone("grey"), of("red", 1)},
		{of("go", 9), gone("gone"), of("one", 2), of("ones", 300)},
		{gone("\x00"), of("\x00\x00", math.MaxUint32), of("\x00\x80", 6), of("\x00\xff", 0), of("\x7f", 1), gone("\x80"), gone("\xff"), of("\xff\x00", 70000)},
		{of("ants", 1), of("bats", 2), of("cats", 3), of("rats", 4), of("vat", 1<<31)},
		{of("caf\xc3\xa9", 3), of("cafe", 5), of("\xe2\x82\xac", 8)},
	}
	for i, e := range l {
		l[i] = slices.Clone(e)
		slices.SortFunc(l[i], func(a, b api.Entry) int { return strings.Compare(a.Word, b.Word) })
	}
	return l
}
