package lev_test

import (
	"bytes"
	"slices"
	"strings"
	"testing"

	"cedilla/lev"
)

// asked finds out whether all that is asked of a state is answered as the chapter says.
func asked(t *testing.T, q string, k int, s lev.State) {
	t.Helper()
	a := of(t, q, k)
	far := int(s[len(q)])
	if far > k {
		far = 0
	}
	if n, is := a.Dist(s); n != far || is != (int(s[len(q)]) <= k) {
		t.Fatalf("%q, %d: Dist of % x is %d, %v", q, k, s, n, is)
	}
	if is := a.Can(s); is != can(k, s) {
		t.Fatalf("%q, %d: Can of % x is %v", q, k, s, is)
	}
	l, others := a.Bytes(s)
	if want, wanted := apart(q, k, s); !bytes.Equal(l, want) || others != wanted {
		t.Fatalf("%q, %d: Bytes of % x is %q, %v, not %q, %v", q, k, s, l, others, want, wanted)
	}
}

// nothing finds out whether nothing is answered of what is no state, or by what is no automaton.
func nothing(t *testing.T, a *lev.Auto, s lev.State) {
	t.Helper()
	if n, is := a.Dist(s); n != 0 || is {
		t.Errorf("Dist of % x is %d, %v", s, n, is)
	}
	if a.Can(s) {
		t.Errorf("% x can", s)
	}
	if l, is := a.Bytes(s); len(l) > 0 || is {
		t.Errorf("Bytes of % x is %q, %v", s, l, is)
	}
}

// P18.2: the chapter's examples.
func TestAskExamples(t *testing.T) {
	a := of(t, "ab", 1)
	for _, x := range []struct {
		read    string
		n       int
		is, can bool
	}{{"ab", 0, true, true}, {"x", 0, false, true}, {"xy", 0, false, false}, {"a", 1, true, true}, {"abb", 1, true, true}} {
		s := a.Read(a.Start(), x.read)
		if n, is := a.Dist(s); n != x.n || is != x.is {
			t.Errorf("%s: Dist is %d, %v", x.read, n, is)
		}
		if is := a.Can(s); is != x.can {
			t.Errorf("%s: Can is %v", x.read, is)
		}
	}
	if l, is := a.Bytes(a.Start()); string(l) != "ab" || !is {
		t.Errorf("Bytes of the start is %q, %v", l, is)
	}
}

// P18.2: of states that are written down: the last number at k and above it, the dead one, and others.
func TestAskOfSomeStates(t *testing.T) {
	for _, x := range []struct {
		q      string
		k      int
		s      lev.State
		n      int
		is     bool
		can    bool
		bytes  string
		others bool
	}{
		{"", 0, state(0), 0, true, true, "", false}, {"", 0, state(1), 0, false, false, "", false},
		{"", 3, state(2), 2, true, true, "", true}, {"", 3, state(3), 3, true, true, "", false}, {"", 3, state(4), 0, false, false, "", false},
		{"ab", 0, state(0, 1, 1), 0, false, true, "a", false}, {"ab", 0, state(1, 1, 0), 0, true, true, "", false}, {"ab", 0, state(1, 1, 1), 0, false, false, "", false},
		{"ab", 1, state(2, 2, 1), 1, true, true, "", false}, {"ab", 1, state(1, 1, 2), 0, false, true, "ab", false}, {"ab", 1, state(2, 2, 2), 0, false, false, "", false},
		{"ab", 1, state(1, 0, 1), 1, true, true, "b", true}, // behind a: a and a byte that is not there are alike
		{"aa", 1, state(0, 1, 2), 0, false, true, "a", true}, {"aba", 2, state(0, 1, 2, 3), 0, false, true, "ab", true},
		{"abc", 3, state(0, 1, 2, 3), 3, true, true, "abc", true}, {"abc", 2, state(3, 2, 3, 3), 0, false, true, "b", false},
		{"abc", 2, state(3, 3, 3, 0), 0, true, true, "", true}, {"abc", 2, state(0, 0, 0, 0), 0, true, true, "abc", true}, // no rows
		{"\x00\xff", 1, state(0, 1, 2), 0, false, true, "\x00\xff", true}, {"\xff\x80\x00", 3, state(0, 1, 2, 3), 3, true, true, "\x00\x80\xff", true},
	} {
		a := of(t, x.q, x.k)
		if n, is := a.Dist(x.s); n != x.n || is != x.is {
			t.Errorf("%q, %d: Dist of % x is %d, %v", x.q, x.k, x.s, n, is)
		}
		if is := a.Can(x.s); is != x.can {
			t.Errorf("%q, %d: Can of % x is %v", x.q, x.k, x.s, is)
		}
		if l, is := a.Bytes(x.s); string(l) != x.bytes || is != x.others {
			t.Errorf("%q, %d: Bytes of % x is %q, %v", x.q, x.k, x.s, l, is)
		}
	}
}

// P18.2: of all states of short texts, be they rows or not.
func TestAskOfAnyNumbers(t *testing.T) {
	for _, q := range texts(small, 3) {
		for _, k := range bounds {
			for _, s := range numbered(len(q)+1, k+1) {
				asked(t, q, k, s)
			}
		}
	}
}

// P18.2: of states of longer texts, of few and of all bytes: rows, and any numbers, few of them small ones.
func TestAskOfLongerTexts(t *testing.T) {
	var c chance
	for _, some := range []string{"a", "ab", small, "abcdefgh", allBytes()} {
		for range 60 {
			q := c.text(some, 20)
			for _, k := range bounds {
				a := of(t, q, k)
				asked(t, q, k, c.state(len(q)+1, k+1))
				asked(t, q, k, with(flat(len(q)+1, k+1), c.below(len(q)+1), c.below(k+1)))
				s := a.Start()
				for _, b := range []byte(c.near(q, some, c.below(5))) {
					asked(t, q, k, s)
					s = a.Step(s, b)
				}
				asked(t, q, k, s)
			}
		}
	}
}

// P18.2: a text of 255 bytes, all different ones or all alike: each byte of it may be told.
func TestAskOfTheLongestText(t *testing.T) {
	all := allBytes()
	alike := strings.Repeat("\x80", 255)
	for _, q := range []string{all[:255], all[1:], alike} {
		for _, k := range bounds {
			a := of(t, q, k)
			asked(t, q, k, a.Start())
			asked(t, q, k, flat(256, 0))
			asked(t, q, k, flat(256, k+1))
			for _, n := range []int{0, 1, 100, 251, 252, 253, 254, 255} {
				asked(t, q, k, a.Read(a.Start(), q[:n]))
				asked(t, q, k, with(flat(256, k+1), n, k))
			}
		}
	}
	turned := []byte(all[:255])
	slices.Reverse(turned)
	if l, is := of(t, string(turned), 3).Bytes(flat(256, 0)); string(l) != all[:255] || !is {
		t.Errorf("Bytes that fall in the text: %q, %v", l, is)
	}
}

// P18.2: a byte that stands in the text more than once is told once, and if any of its places counts.
func TestBytesOfRepeatedBytes(t *testing.T) {
	for _, q := range []string{"aa", "aaaa", "abab", "abba", "cabbac", "ccbbaaccbbaa"} {
		for _, k := range bounds {
			for at := range len(q) + 1 {
				for n := range k + 2 {
					asked(t, q, k, with(flat(len(q)+1, k+1), at, n))
					asked(t, q, k, with(ramp(len(q)+1, k+1), at, n))
				}
			}
		}
	}
}

// P18.2: of what is no state nothing is told.
func TestAskOfNoStates(t *testing.T) {
	for _, q := range []string{"", "a", "ab", strings.Repeat("ab", 128)[:255]} {
		for _, k := range bounds {
			a := of(t, q, k)
			for size := range len(q) + 4 {
				if size == len(q)+1 {
					continue
				}
				nothing(t, a, flat(size, 0))
				nothing(t, a, ramp(size, k+1))
			}
			for at := range len(q) + 1 {
				for _, n := range []int{k + 2, 128, 255} {
					nothing(t, a, with(flat(len(q)+1, 0), at, n))
				}
			}
		}
	}
}

// P1: an automaton that is none tells nothing.
func TestAskOfNoAutomaton(t *testing.T) {
	for _, a := range []*lev.Auto{nil, lev.New("a", 4), lev.New("a", -1), lev.New(strings.Repeat("a", 256), 1)} {
		for _, s := range []lev.State{"", state(0), state(0, 1), flat(257, 0)} {
			nothing(t, a, s)
		}
	}
}

// P1: the bytes that are answered are the caller's.
func TestBytesAreTheCallers(t *testing.T) {
	a := of(t, "ab", 1)
	l, _ := a.Bytes(a.Start())
	clear(l)
	_ = append(l, 'z')
	if again, is := a.Bytes(a.Start()); string(again) != "ab" || !is {
		t.Errorf("once more: %q, %v", again, is)
	}
	if s := a.Step(a.Start(), 'a'); s != state(1, 0, 1) {
		t.Errorf("then the step by a: % x", s)
	}
}
