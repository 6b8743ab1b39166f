package lev_test

import (
	"math"
	"strings"
	"testing"

	"cedilla/lev"
)

// leads finds out whether the step of a state is the one that is asked for.
func leads(t *testing.T, q string, k int, s lev.State, b byte) {
	t.Helper()
	if next, want := of(t, q, k).Step(s, b), step(q, k, s, b); next != want {
		t.Fatalf("%q, %d: the step of % x by the byte %d is % x, not % x", q, k, s, b, next, want)
	}
}

// P18.1: the chapter's examples.
func TestStepExamples(t *testing.T) {
	a := of(t, "ab", 1)
	if s := a.Start(); s != state(0, 1, 2) {
		t.Errorf("start: % x", s)
	}
	for _, x := range []struct {
		b    byte
		want lev.State
	}{{'a', state(1, 0, 1)}, {'b', state(1, 1, 1)}, {'x', state(1, 1, 2)}} {
		if s := a.Step(a.Start(), x.b); s != x.want {
			t.Errorf("step by %c: % x, not % x", x.b, s, x.want)
		}
	}
}

// P18.1: there is an automaton of at most 255 bytes and a bound from 0 to 3, and no other one.
func TestNewEdges(t *testing.T) {
	for _, size := range []int{0, 1, 2, 3, 4, 254, 255, 256, 257, 511, 512, 100000} {
		for _, k := range []int{math.MinInt, -256, -2, -1, 0, 1, 2, 3, 4, 5, 255, 256, 257, 1 << 32, math.MaxInt} {
			for _, b := range []string{"\x00", "q", "\x80", "\xff"} {
				is := lev.New(strings.Repeat(b, size), k) != nil
				if want := size <= 255 && k >= 0 && k <= 3; is != want {
					t.Errorf("%d bytes, %d: %v, not %v", size, k, is, want)
				}
			}
		}
	}
}

// P18.1: the start has a number for each beginning, as great as it is long, those above k being k + 1.
func TestStartOfAllSizes(t *testing.T) {
	for size := range 256 {
		q := strings.Repeat("q\x00\xff", size)[:size]
		for _, k := range bounds {
			if s := of(t, q, k).Start(); s != ramp(size+1, k+1) {
				t.Fatalf("of %d bytes, %d: % x", size, k, s)
			}
		}
	}
}

// P18.1: the steps from the start on are rows, of all short texts, behind all short ones.
func TestStepsOfAllShortTexts(t *testing.T) {
	l := texts(small, 4)
	for _, q := range texts(small, 3) {
		for _, k := range bounds {
			a := of(t, q, k)
			for _, u := range l {
				if s, want := a.Read(a.Start(), u), row(q, k, u); s != want {
					t.Fatalf("%q, %d: behind %q % x, not % x", q, k, u, s, want)
				}
			}
		}
	}
}

// P18.1: byte by byte the steps are rows, of longer texts of few and of all bytes, behind what is near and what is far.
func TestStepsOfLongerTexts(t *testing.T) {
	var c chance
	for _, bytes := range []string{"a", "ab", small, "abcdefgh", allBytes()} {
		for range 20 {
			q := c.text(bytes, 30)
			for _, u := range []string{q, c.text(bytes, 30), c.near(q, bytes, c.below(6)), c.near(q, "xyz", 3)} {
				for _, k := range bounds {
					a := of(t, q, k)
					s := a.Start()
					for i := range len(u) {
						s = a.Step(s, u[i])
						if want := row(q, k, u[:i+1]); s != want {
							t.Fatalf("%q, %d: behind %q % x, not % x", q, k, u[:i+1], s, want)
						}
					}
				}
			}
		}
	}
}

// P18.1: a text of 255 bytes, alike or different ones, from its start to its end.
func TestStepsOfTheLongestText(t *testing.T) {
	all := allBytes()
	for _, q := range []string{all[:255], all[1:], strings.Repeat("a", 255), strings.Repeat("ab", 128)[1:]} {
		for _, k := range bounds {
			a := of(t, q, k)
			s := a.Start()
			for i := range len(q) {
				if i%50 == 0 || i > 250 {
					if want := row(q, k, q[:i]); s != want {
						t.Fatalf("%d: behind %d bytes % x, not % x", k, i, s, want)
					}
				}
				s = a.Step(s, q[i])
			}
			if want := row(q, k, q); s != want {
				t.Fatalf("%d: behind all % x, not % x", k, s, want)
			}
		}
	}
}

// P18.1: each byte is itself alone, be it 0, or one from 128 on; those that stand in the text once, more than once, or not at all.
func TestStepByEachByte(t *testing.T) {
	all := allBytes()
	for _, q := range []string{"", "\x00", "\xff", "\x80", "a", "ab", "ba", "aab\x00\x80\xff", "ä", "abcabc", all[:255], all[1:]} {
		for _, k := range bounds {
			for b := range 256 {
				leads(t, q, k, ramp(len(q)+1, k+1), byte(b))
				leads(t, q, k, flat(len(q)+1, 0), byte(b))
				leads(t, q, k, with(flat(len(q)+1, k+1), len(q)/2, 0), byte(b))
			}
		}
	}
}

// P18.1: a state whose numbers may be has a step, also if it is no row.
func TestStepOfAnyNumbers(t *testing.T) {
	for _, q := range texts(small, 3) {
		for _, k := range bounds {
			for _, s := range numbered(len(q)+1, k+1) {
				for _, b := range []byte("\x00a\xffx") {
					leads(t, q, k, s, b)
				}
			}
		}
	}
	var c chance
	for range 3000 {
		q, k := c.text("abc", 12), c.below(4)
		leads(t, q, k, c.state(len(q)+1, k+1), "abcd"[c.below(4)])
	}
}

// P18.1: what has a byte too few, too many, or none, is no state.
func TestStepOfWrongSizes(t *testing.T) {
	for _, size := range []int{0, 1, 2, 6, 254, 255} {
		q := strings.Repeat("a", size)
		for _, k := range bounds {
			a := of(t, q, k)
			for n := range size + 5 {
				for _, s := range []lev.State{flat(n, 0), flat(n, k+1), ramp(n, k+1)} {
					next := a.Step(s, 'a')
					if n == size+1 && next != step(q, k, s, 'a') {
						t.Errorf("%d bytes, %d: the step of % x is % x", size, k, s, next)
					}
					if n != size+1 && next != "" {
						t.Errorf("%d bytes, %d: the step of %d numbers is % x", size, k, n, next)
					}
				}
			}
		}
	}
}

// P18.1: what has a number above k + 1, wherever it is, is no state; k + 1 may be.
func TestStepOfWrongNumbers(t *testing.T) {
	for _, q := range []string{"", "a", "ab", "abcab", strings.Repeat("a", 255)} {
		for _, k := range bounds {
			a := of(t, q, k)
			for at := range len(q) + 1 {
				for _, n := range []int{k + 2, k + 3, 127, 128, 254, 255} {
					for _, s := range []lev.State{flat(len(q)+1, 0), ramp(len(q)+1, k+1)} {
						if next := a.Step(with(s, at, n), 'a'); next != "" {
							t.Fatalf("%q, %d: the step with %d at %d is % x", q, k, n, at, next)
						}
					}
				}
				leads(t, q, k, with(flat(len(q)+1, 0), at, k+1), 'a')
			}
		}
	}
}

// P18.1: the dead state's steps are it.
func TestStepOfTheDeadState(t *testing.T) {
	all := allBytes()
	for _, q := range []string{"", "a", "ab", "aabb", all[:255]} {
		for _, k := range bounds {
			a, dead := of(t, q, k), flat(len(q)+1, k+1)
			for b := range 256 {
				if s := a.Step(dead, byte(b)); s != dead {
					t.Fatalf("%q, %d: the step of the dead state by the byte %d is % x", q, k, b, s)
				}
			}
			if s := a.Read(dead, q, all); s != dead {
				t.Fatalf("%q, %d: the dead state, and more read: % x", q, k, s)
			}
		}
	}
}

// P18.1: texts are read one behind the other, be there none, one, many, or empty ones among them.
func TestReadOfManyTexts(t *testing.T) {
	for _, q := range []string{"", "a", "kitten", "aab\x00\xff"} {
		for _, k := range bounds {
			a := of(t, q, k)
			for _, from := range []lev.State{a.Start(), flat(len(q)+1, 0), flat(len(q)+1, k+1), with(flat(len(q)+1, k+1), len(q), k)} {
				for _, l := range [][]string{nil, {}, {""}, {"", ""}, {"a"}, {"kitten"}, {"ki", "tt", "en"}, {"", "sit", "", "ten", ""}, {"k", "i", "t"}, {"\xff\x00", "a"}, {q, "", q}} {
					want := from
					for _, b := range []byte(strings.Join(l, "")) {
						want = step(q, k, want, b)
					}
					if s := a.Read(from, l...); s != want {
						t.Fatalf("%q, %d: % x and %q read: % x, not % x", q, k, from, l, s, want)
					}
				}
			}
		}
	}
}

// P18.1: from any numbers on Read is Step by Step, to the end of a text, also far behind where all is dead.
func TestReadIsSteps(t *testing.T) {
	var c chance
	for range 2000 {
		q, k := c.text("ab", 8), c.below(4)
		a := of(t, q, k)
		from, u := c.state(len(q)+1, k+1), c.text("abx", 20)
		want := from
		for i := range len(u) {
			want = a.Step(want, u[i])
		}
		at := c.below(len(u) + 1)
		if s := a.Read(from, u[:at], u[at:]); s != want {
			t.Fatalf("%q, %d: % x and %q read: % x, not % x", q, k, from, u, s, want)
		}
	}
}

// P18.1: of what is no state nothing is read, be there bytes to read or not.
func TestReadOfNoStates(t *testing.T) {
	a := of(t, "ab", 1)
	for _, s := range []lev.State{"", state(0), state(0, 1), state(0, 1, 2, 2), state(0, 1, 3), state(3, 1, 1), state(0, 255, 1)} {
		for _, l := range [][]string{nil, {""}, {"a"}, {"", "ab"}, {"ab", "x"}} {
			if next := a.Read(s, l...); next != "" {
				t.Errorf("% x and %q read: % x", s, l, next)
			}
		}
	}
}

// P18.1, P1: texts may be much longer than an automaton's own.
func TestReadOfVeryLongTexts(t *testing.T) {
	long := strings.Repeat("kitten", 1<<20)
	for _, q := range []string{"", "kitten", strings.Repeat("kitten", 43)[:255]} {
		for _, k := range bounds {
			a, dead := of(t, q, k), flat(len(q)+1, k+1)
			if s := a.Read(a.Start(), long); s != dead {
				t.Errorf("%d bytes, %d: % x", len(q), k, s)
			}
			if s := a.Read(flat(len(q)+1, 0), "", long, "x", long); s != dead {
				t.Errorf("%d bytes, %d, from nothing but 0 on: % x", len(q), k, s)
			}
		}
	}
}

// P1: an automaton that is none answers nothing.
func TestStepsOfNoAutomaton(t *testing.T) {
	for _, a := range []*lev.Auto{nil, lev.New("a", 4), lev.New("a", -1), lev.New(strings.Repeat("a", 256), 1)} {
		if s := a.Start(); s != "" {
			t.Errorf("start: % x", s)
		}
		for _, s := range []lev.State{"", state(0), state(0, 1), ramp(257, 2)} {
			if next := a.Step(s, 'a'); next != "" {
				t.Errorf("step of % x: % x", s, next)
			}
			for _, l := range [][]string{nil, {""}, {"a", "b"}} {
				if next := a.Read(s, l...); next != "" {
					t.Errorf("% x and %q read: % x", s, l, next)
				}
			}
		}
	}
}
