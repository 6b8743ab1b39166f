package lev_test

import (
	"bytes"
	"strings"
	"testing"

	"cedilla/dist"
	"cedilla/lev"
)

// behind finds out whether the Dist behind a text is the distance, if that is at most k, and none else.
func behind(t *testing.T, q, u string) {
	t.Helper()
	for _, k := range bounds {
		a := of(t, q, k)
		n, is := a.Dist(a.Read(a.Start(), u))
		if want, wanted := dist.Within(q, u, k); n != want || is != wanted {
			t.Fatalf("%q, %d: Dist behind %q is %d, %v, not %d, %v", q, k, u, n, is, want, wanted)
		}
	}
}

// P18.3: behind any short text the Dist is the distance of both.
func TestDistBehindAllShortTexts(t *testing.T) {
	l := texts(small, 4)
	for _, q := range l {
		for _, u := range l {
			behind(t, q, u)
		}
	}
}

// P18.3: and behind longer ones, near and far, of few and of all bytes.
func TestDistBehindLongerTexts(t *testing.T) {
	var c chance
	for _, some := range []string{"a", "ab", small, "abcdefgh", allBytes()} {
		for range 200 {
			q := c.text(some, 60)
			behind(t, q, q)
			behind(t, q, c.text(some, 60))
			behind(t, q, c.near(q, some, c.below(6)))
		}
		for range 5 {
			q := c.near(strings.Repeat(some, 255)[:255], some, 9)
			q = q[:min(len(q), 255)]
			behind(t, q, c.near(q, some, c.below(6)))
		}
	}
}

// P18.3: what can't, never can again; and what can, can come to a Dist by what is left of the text behind one of its beginnings.
func TestWhatCan(t *testing.T) {
	for _, q := range texts(small, 3) {
		for _, k := range bounds {
			a := of(t, q, k)
			for _, s := range numbered(len(q)+1, k+1) {
				comes := false
				for n := range len(q) + 1 {
					_, is := a.Dist(a.Read(s, q[n:]))
					comes = comes || is
				}
				if can := a.Can(s); can != comes {
					t.Fatalf("%q, %d: Can of % x is %v, but a way on to a Dist: %v", q, k, s, can, comes)
				}
				for _, b := range []byte("\x00a\xffx") {
					if next := a.Step(s, b); a.Can(next) && !a.Can(s) {
						t.Fatalf("%q, %d: % x can't, but can behind the byte %d: % x", q, k, s, b, next)
					}
				}
			}
		}
	}
}

// P18.3: along any text, once it can't it never can, and has no Dist.
func TestWhatCantAlongTexts(t *testing.T) {
	var c chance
	for range 500 {
		q := c.text("abc", 10)
		for _, k := range bounds {
			a := of(t, q, k)
			s, could := a.Start(), true
			for _, b := range []byte(c.near(q, "abcd", 4) + c.text("abcd", 9)) {
				s = a.Step(s, b)
				_, is := a.Dist(s)
				if can := a.Can(s); !could && can || !can && is {
					t.Fatalf("%q, %d: % x can: %v, could: %v, has a Dist: %v", q, k, s, can, could, is)
				}
				could = a.Can(s)
			}
		}
	}
}

// P18.3: the number of each beginning is at most 1 from its neighbours'.
func TestNeighboursNumbers(t *testing.T) {
	var c chance
	for _, some := range []string{"ab", "abcdefgh", allBytes()} {
		for range 100 {
			q := c.text(some, 255)
			for _, k := range bounds {
				a := of(t, q, k)
				s := a.Start()
				for _, b := range []byte(c.near(q, some, 5)) {
					s = a.Step(s, b)
					for n := range len(q) {
						if x, y := int(s[n]), int(s[n+1]); x-y > 1 || y-x > 1 {
							t.Fatalf("%q, %d: % x, at %d", q, k, s, n)
						}
					}
				}
			}
		}
	}
}

// cut is a state as one of a smaller bound has it.
func cut(s lev.State, k int) lev.State {
	l := []byte(s)
	for i := range l {
		l[i] = min(l[i], byte(k+1))
	}
	return lev.State(l)
}

// P18.3: two automata of one text say the same as far as both bounds reach.
func TestTwoBounds(t *testing.T) {
	var c chance
	for range 400 {
		q := c.text("abc", 12)
		u := c.near(q, "abcd", c.below(6))
		for _, k := range bounds {
			for _, most := range bounds[k:] {
				a, b := of(t, q, k), of(t, q, most)
				for i := range len(u) + 1 {
					s, r := a.Read(a.Start(), u[:i]), b.Read(b.Start(), u[:i])
					alike(t, a, b, k, s, r)
				}
			}
		}
	}
}

// alike finds out whether an automaton of the bound k says the same as one of no smaller bound does, each of its own state.
func alike(t *testing.T, a, b *lev.Auto, k int, s, r lev.State) {
	t.Helper()
	if cut(r, k) != s {
		t.Fatalf("% x of the bound %d, but % x of a greater one", s, k, r)
	}
	n, is := a.Dist(s)
	m, too := b.Dist(r)
	if is != (too && m <= k) || is && n != m {
		t.Fatalf("Dist of % x is %d, %v, of % x %d, %v", s, n, is, r, m, too)
	}
	if a.Can(s) && !b.Can(r) {
		t.Fatalf("% x can, but % x can't", s, r)
	}
	l, others := a.Bytes(s)
	more, can := b.Bytes(r)
	for _, x := range l {
		if !bytes.Contains(more, []byte{x}) {
			t.Fatalf("Bytes of % x is %q, of % x %q", s, l, r, more)
		}
	}
	if others && !can {
		t.Fatalf("other bytes lead from % x on, but not from % x", s, r)
	}
}

// P18.2, P18.3: Bytes tells just the bytes whose step is another one than that of any byte that is not in the text.
func TestBytesAndSteps(t *testing.T) {
	var c chance
	for range 300 {
		q, k := c.text("abcd", 12), c.below(4)
		a := of(t, q, k)
		s := a.Start()
		for _, u := range []byte(c.near(q, "abcde", 3)) {
			l, others := a.Bytes(s)
			other := a.Step(s, foreign(q))
			for b := range 256 {
				next := a.Step(s, byte(b))
				if told := bytes.IndexByte(l, byte(b)) >= 0; told != (next != other) {
					t.Fatalf("%q, %d: Bytes of % x is %q, but by the byte %d it is % x, by one not in the text % x", q, k, s, l, b, next, other)
				}
			}
			if others != a.Can(other) {
				t.Fatalf("%q, %d: other bytes of % x: %v", q, k, s, others)
			}
			s = a.Step(s, u)
		}
	}
}

// P18.1, P18.3: states may be the keys of a map: what was found once of a state holds wherever it comes again.
func TestStatesAsKeys(t *testing.T) {
	for _, q := range []string{"", "a", "abab", "kitten"} {
		for _, k := range bounds {
			a := of(t, q, k)
			some := "abeiknt\xff"
			ways := map[lev.State][]lev.State{}
			for l := []lev.State{a.Start()}; len(l) > 0; l = l[1:] {
				if _, is := ways[l[0]]; is {
					continue
				}
				var next []lev.State
				for i := range len(some) {
					next = append(next, a.Step(l[0], some[i]))
				}
				ways[l[0]] = next
				l = append(l, next...)
			}
			var c chance
			for range 100 {
				u := c.near(q, some, 4)
				s := a.Start()
				for i := range len(u) {
					s = ways[s][strings.IndexByte(some, u[i])]
				}
				n, is := a.Dist(s)
				if want, wanted := dist.Within(q, u, k); n != want || is != wanted {
					t.Fatalf("%q, %d: by the map, Dist behind %q is %d, %v", q, k, u, n, is)
				}
			}
		}
	}
}

// P1: what is answered hangs on what is handed in alone, whatever was asked ahead, of this automaton and of others.
func TestSameAnswersAgain(t *testing.T) {
	var c chance
	for range 200 {
		q, k, u := c.text("ab", 10), c.below(4), c.text("abc", 10)
		a, b := of(t, q, k), of(t, u, 3-k)
		s := a.Read(a.Start(), u)
		n, is := a.Dist(s)
		l, others := a.Bytes(s)
		b.Bytes(b.Read(b.Start(), q))
		a.Bytes(a.Read(a.Start(), q))
		m, too := a.Dist(a.Read(a.Start(), u))
		more, can := a.Bytes(a.Read(a.Start(), u))
		if n != m || is != too || others != can || !bytes.Equal(l, more) {
			t.Fatalf("%q, %d, behind %q: %d, %v, %q, %v, and then %d, %v, %q, %v", q, k, u, n, is, l, others, m, too, more, can)
		}
	}
}
