package lev_test

import (
	"slices"
	"testing"

	"cedilla/dist"
	"cedilla/lev"
)

// small are three bytes, of which all short texts are made: the least one, an ordinary one, and the greatest.
const small = "\x00a\xff"

// bounds are all that an automaton may have.
var bounds = []int{0, 1, 2, 3}

// texts are all texts of at most so many bytes, all of them bytes of these, the shorter ones first.
func texts(bytes string, most int) []string {
	l := []string{""}
	for from := 0; len(l[from]) < most; from++ {
		for i := range len(bytes) {
			l = append(l, l[from]+bytes[i:i+1])
		}
	}
	return l
}

// numbered are all states of so many numbers, each from 0 to most, be they rows or not.
func numbered(size, most int) []lev.State {
	var l []lev.State
	for _, s := range texts("\x00\x01\x02\x03\x04\x05\x06"[:most+1], size) {
		if len(s) == size {
			l = append(l, lev.State(s))
		}
	}
	return l
}

// of is an automaton that there must be.
func of(t *testing.T, q string, k int) *lev.Auto {
	t.Helper()
	a := lev.New(q, k)
	if a == nil {
		t.Fatalf("no automaton of %d bytes, %d", len(q), k)
	}
	return a
}

// state is the one of these numbers.
func state(numbers ...int) lev.State {
	s := make([]byte, len(numbers))
	for i, n := range numbers {
		s[i] = byte(n)
	}
	return lev.State(s)
}

// ramp is the state of so many numbers, each as great as its place, but at most so great.
func ramp(size, most int) lev.State {
	s := make([]byte, size)
	for i := range s {
		s[i] = byte(min(i, most))
	}
	return lev.State(s)
}

// flat is the state of so many numbers n.
func flat(size, n int) lev.State {
	s := make([]byte, size)
	for i := range s {
		s[i] = byte(n)
	}
	return lev.State(s)
}

// with is s with another number at a place.
func with(s lev.State, at, n int) lev.State {
	return s[:at] + lev.State([]byte{byte(n)}) + s[at+1:]
}

// capped is the state of a row, in which each number above k is k + 1.
func capped(k int, row []int) lev.State {
	s := make([]byte, len(row))
	for i, n := range row {
		s[i] = byte(min(n, k+1))
	}
	return lev.State(s)
}

// row is the state behind these bytes, of the row of chapter 17.
func row(q string, k int, bytes string) lev.State {
	l := dist.Row(q)
	for i := range len(bytes) {
		l = dist.Next(q, l, bytes[i])
	}
	return capped(k, l)
}

// step is the step of a state, be it a row or not, as the chapter tells it; capped when all numbers are there.
func step(q string, k int, s lev.State, b byte) lev.State {
	l := []int{int(s[0]) + 1}
	for i := range len(q) {
		n := int(s[i])
		if q[i] != b {
			n++
		}
		l = append(l, min(n, int(s[i+1])+1, l[i]+1))
	}
	return capped(k, l)
}

// can tells whether any number of a state is at most k.
func can(k int, s lev.State) bool {
	return slices.ContainsFunc([]byte(s), func(n byte) bool { return int(n) <= k })
}

// apart are the bytes whose steps are other ones than that of a byte that is not in q, and whether that one can.
func apart(q string, k int, s lev.State) ([]byte, bool) {
	other := step(q, k, s, foreign(q))
	var l []byte
	for b := range 256 {
		if step(q, k, s, byte(b)) != other {
			l = append(l, byte(b))
		}
	}
	return l, can(k, other)
}

// foreign is the greatest byte that is not in q.
func foreign(q string) byte {
	for b := 255; b >= 0; b-- {
		if !slices.Contains([]byte(q), byte(b)) {
			return byte(b)
		}
	}
	panic("all bytes are in q")
}

// chance tells numbers that are always the same ones.
type chance uint64

// below is the next number, from 0 on, below n.
func (c *chance) below(n int) int {
	*c = *c*6364136223846793005 + 1442695040888963407
	return int(*c>>33) % n
}

// text is one of at most so many bytes, all of them bytes of these.
func (c *chance) text(bytes string, most int) string {
	s := make([]byte, c.below(most+1))
	for i := range s {
		s[i] = bytes[c.below(len(bytes))]
	}
	return string(s)
}

// near is a text that so many changes make of s, or fewer, all of bytes of these.
func (c *chance) near(s, bytes string, many int) string {
	for range many {
		at, b := c.below(len(s)+1), c.below(len(bytes))
		from := min(at+c.below(2), len(s))
		s = s[:at] + bytes[b:b+c.below(2)] + s[from:]
	}
	return s
}

// state is one of so many numbers, each from 0 to most.
func (c *chance) state(size, most int) lev.State {
	s := make([]byte, size)
	for i := range s {
		s[i] = byte(c.below(most + 1))
	}
	return lev.State(s)
}

// allBytes are all that there are, rising.
func allBytes() string {
	b := make([]byte, 256)
	for i := range b {
		b[i] = byte(i)
	}
	return string(b)
}
