package cursor_test

import (
	"slices"
	"testing"

	"cedilla/api"
	"cedilla/cursor"
)

// alike finds out whether two cursors, and all to which they lead by any byte, are alike in all that can be asked; and tells how many there are.
func alike(t *testing.T, c, d cursor.Cursor) int {
	t.Helper()
	if c.There() != d.There() || c.Row() != d.Row() {
		t.Fatalf("one is at %s, %t, one at %s, %t", told(c.Row()), c.There(), told(d.Row()), d.There())
	}
	e, is := c.Entry()
	f, has := d.Entry()
	if e != f || is != has {
		t.Fatalf("at %s one has %s, %t, one %s, %t", told(c.Row()), told(e), is, told(f), has)
	}
	if !slices.Equal(c.Bytes(), d.Bytes()) || !slices.Equal(c.All(), d.All()) || c.Many() != d.Many() {
		t.Fatalf("at %s one goes on with % x, has %s, one with % x, has %s", told(c.Row()), c.Bytes(), told(c.All()), d.Bytes(), told(d.All()))
	}
	n := 1
	for _, b := range allBytes() {
		c, is := c.Step(b)
		d, has := d.Step(b)
		if is != has {
			t.Fatalf("by %x one steps to %s, %t, one to %s, %t", b, told(c.Row()), is, told(d.Row()), has)
		}
		if is {
			n += alike(t, c, d)
		}
	}
	return n
}

// inOrder finds out whether all of a cursor, and of those behind it, are its own entry, and then those behind each of its bytes, in order.
func inOrder(t *testing.T, c cursor.Cursor) {
	t.Helper()
	var l []api.Entry
	if e, is := c.Entry(); is {
		l = append(l, e)
	}
	many := len(l)
	for _, b := range c.Bytes() {
		next, is := c.Step(b)
		if !is {
			t.Fatalf("at %s % x are said to lead on, but %x does not", told(c.Row()), c.Bytes(), b)
		}
		inOrder(t, next)
		l, many = append(l, next.All()...), many+next.Many()
	}
	if !slices.Equal(c.All(), l) || c.Many() != many {
		t.Fatalf("at %s all are %s, %d, not %s, %d", told(c.Row()), told(c.All()), c.Many(), told(l), many)
	}
}

// areAlike finds out of a list's trie and segment all that the chapter says of both.
func areAlike(t *testing.T, l []api.Entry) {
	t.Helper()
	c := both(t, l...)
	if n := alike(t, c[0], c[len(c)-1]); n != len(rows(l)) {
		t.Fatalf("of %s there are %d rows", told(l), n)
	}
	for _, x := range c {
		inOrder(t, x)
	}
}

// P19.4: of the sample lists.
func TestAlike(t *testing.T) {
	for _, l := range samples() {
		areAlike(t, l)
	}
	areAlike(t, many(600))
}

// P19.4, and P19.1 to P19.3: of all lists of some short words, each of them gone, with one weight, with another one, or not there.
func TestAlikeOfAllSmallLists(t *testing.T) {
	words := []string{"\x00", "\x00\x00", "\x00\xff", "\xff", "\xff\x00", "\xff\xff"}
	for n := range 1 << (2 * len(words)) {
		var l []api.Entry
		for i, w := range words {
			if kind := n >> (2 * i) & 3; kind > 0 {
				l = append(l, valued(w, uint64(kind-1)))
			}
		}
		for _, c := range both(t, l...) {
			found := walksSmall(t, c, l, "")
			if !slices.Equal(found, rows(l)) {
				t.Fatalf("of %s are there %s", told(l), told(found))
			}
		}
	}
}

// walksSmall is walks, by three bytes alone: of two that may be in words, and of one that is not.
func walksSmall(t *testing.T, c cursor.Cursor, l []api.Entry, at string) []string {
	t.Helper()
	isAt(t, c, l, at)
	all := []string{at}
	on := behind(l, at)
	for _, b := range []byte{0, 1, 255} {
		next, is := c.Step(b)
		if is != slices.Contains(on, b) || next.There() != is {
			t.Fatalf("of %s at %s Step by %x is %t", told(l), told(at), b, is)
		}
		if is {
			all = append(all, walksSmall(t, next, l, row(at, b))...)
		}
	}
	return all
}

// P19.4, and P19.1 to P19.3: lists whose words begin and end alike in many ways.
func TestAlikeOfOthers(t *testing.T) {
	c := chance(7)
	for range 30 {
		for _, l := range [][]api.Entry{c.list(8, 5, "ab"), c.list(15, 4, "ab\x00\xff"), c.list(12, 6, string(allBytes()))} {
			areAlike(t, l)
			for _, x := range both(t, l...) {
				walksAll(t, x, l)
			}
		}
	}
	areAlike(t, c.list(6, 255, "ab"))
}
