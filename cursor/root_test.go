package cursor_test

import (
	"slices"
	"testing"

	"cedilla/api"
	"cedilla/cursor"
	"cedilla/segment"
	"cedilla/trie"
)

// The chapter's examples.
func TestExamples(t *testing.T) {
	mem := trie.New(of("tea", 3), of("ten", 4), of("to", 1), gone("tea"))
	for i, c := range []cursor.Cursor{cursor.OfTrie(mem), cursor.OfSegment(opened(t, mem.All()...))} {
		te, is := c.Seek("t", "e")
		e, has := te.Entry()
		if !is || !te.There() || te.Row() != "te" || string(te.Bytes()) != "an" || has || e != (api.Entry{}) || te.Many() != 2 {
			t.Errorf("%d: te is %s, %t, goes on with %s, has %s, %t, and %d", i, told(te.Row()), is, te.Bytes(), told(e), has, te.Many())
		}
		tea, is := c.Seek("tea")
		e, has = tea.Entry()
		if !is || !has || e != gone("tea") || len(tea.Bytes()) != 0 {
			t.Errorf("%d: tea is %t, has %s, %t, goes on with %s", i, is, told(e), has, tea.Bytes())
		}
		x, is := c.Seek("x")
		if is || x != (cursor.Cursor{}) {
			t.Errorf("%d: x is there, at %s", i, told(x.Row()))
		}
		if l := c.All(); !slices.Equal(l, []api.Entry{gone("tea"), of("ten", 4), of("to", 1)}) {
			t.Errorf("%d: all are %s", i, told(l))
		}
	}
}

// P19.1: a cursor is at the root, where all entries are.
func TestRoot(t *testing.T) {
	for _, l := range samples() {
		for _, c := range both(t, l...) {
			isAt(t, c, l, "")
		}
	}
}

// P19.1: the root of entries without words of one byte, and with the word of one byte.
func TestRootByHand(t *testing.T) {
	for _, c := range both(t, of("q", 7)) {
		if e, is := c.Entry(); !c.There() || c.Row() != "" || is || e != (api.Entry{}) || string(c.Bytes()) != "q" || c.Many() != 1 {
			t.Errorf("the root is %t, at %s, has %s, %t, goes on with %s", c.There(), told(c.Row()), told(e), is, c.Bytes())
		}
		q, is := c.Step('q')
		if e, has := q.Entry(); !is || q.Row() != "q" || !has || e != of("q", 7) || len(q.Bytes()) != 0 || q.Many() != 1 {
			t.Errorf("q is %t, at %s, has %s, %t, goes on with %s", is, told(q.Row()), told(e), has, q.Bytes())
		}
	}
	for _, c := range both(t, of("que", 7), gone("rue")) {
		if e, is := c.Entry(); !c.There() || is || e != (api.Entry{}) || string(c.Bytes()) != "qr" || c.Many() != 2 {
			t.Errorf("the root is %t, has %s, %t, goes on with %s", c.There(), told(e), is, c.Bytes())
		}
	}
}

// P19.1, P1: of a trie, and of a segment, that is none, the cursor is not there; nor is the zero one.
func TestNone(t *testing.T) {
	isNone(t, cursor.OfTrie(nil))
	isNone(t, cursor.OfSegment(nil))
	isNone(t, cursor.Cursor{})
	isNone(t, cursor.OfTrie((*trie.Trie)(nil).Copy()))
	for _, s := range []string{"", "x", long(40)} {
		x, _ := segment.Open(s)
		isNone(t, cursor.OfSegment(x))
	}
}

// P19.1, P1: where there are no entries the root is there, and has nothing.
func TestNoEntries(t *testing.T) {
	empty := []cursor.Cursor{
		cursor.OfTrie(trie.New()),
		cursor.OfTrie(&trie.Trie{}),
		cursor.OfTrie(trie.New(of("", 3), of(long(256), 4), gone(""))),
		cursor.OfTrie(trie.New().Copy()),
		cursor.OfSegment(&segment.Segment{}),
	}
	for _, c := range empty {
		walksAll(t, c, nil)
		for _, l := range [][]string{nil, {""}, {"", "", ""}} {
			x, is := c.Seek(l...)
			if !is {
				t.Errorf("by %s there is none", told(l))
			}
			isAt(t, x, nil, "")
		}
		for _, l := range [][]string{{"a"}, {"", "\x00"}, {long(255)}, {long(256)}} {
			x, is := c.Seek(l...)
			if is {
				t.Errorf("by %s there is one", told(l))
			}
			isNone(t, x)
		}
	}
}

// P19.1: in a trie a word that is none has no place, whatever else is put.
func TestWordsThatMayNotBe(t *testing.T) {
	mem := trie.New(of("", 3), of("a", 1), of(long(256), 4))
	walksAll(t, cursor.OfTrie(mem), []api.Entry{of("a", 1)})
}

// P19.1: of one trie, and of one segment, each call makes a cursor at the root, whatever was done with others.
func TestRootsAgain(t *testing.T) {
	l := samples()[8]
	mem, seg := trie.New(l...), opened(t, l...)
	for range 3 {
		for _, c := range []cursor.Cursor{cursor.OfTrie(mem), cursor.OfSegment(seg)} {
			walksAll(t, c, l)
		}
	}
	if !slices.Equal(mem.All(), l) || !slices.Equal(seg.All(), l) {
		t.Errorf("%s became %s, %s", told(l), told(mem.All()), told(seg.All()))
	}
}
