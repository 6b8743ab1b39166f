package segment_test

import (
	"math"
	"slices"
	"strings"
	"testing"

	"cedilla/api"
	"cedilla/segment"
)

// back finds out whether a list comes back from its segment's bytes, and these from it.
func back(t *testing.T, l []api.Entry) {
	t.Helper()
	s := made(t, l...)
	all := opened(t, s).All()
	if !slices.Equal(all, plain(l)) {
		t.Fatalf("%s comes back as %s", told(l), told(all))
	}
	if again := made(t, all...); again != s {
		t.Fatalf("%s comes back as %s", told(s), told(again))
	}
}

// lists tells all lists of these words, each of them with one of the values, or not there, but the empty one.
func lists(words []string, values []uint64, do func(l []api.Entry)) {
	var from func(l []api.Entry, words []string)
	from = func(l []api.Entry, words []string) {
		if len(words) > 0 {
			from(l, words[1:])
			for _, v := range values {
				from(append(slices.Clone(l), valued(words[0], v)), words[1:])
			}
		} else if len(l) > 0 {
			do(l)
		}
	}
	from(nil, words)
}

// P16.3: all lists of short words, with small values and with the greatest.
func TestAllListsComeBack(t *testing.T) {
	for _, words := range [][]string{
		{"a", "aa", "ab", "b", "ba", "bb"},
		{"\x00", "\x00\x00", "\x00\xff", "\xff", "\xff\x00", "\xff\xff"},
	} {
		lists(words, []uint64{0, 1, greatest}, func(l []api.Entry) { back(t, l) })
	}
	lists([]string{"a", "aa", "aaa", "aab", "ab", "aba", "abb", "b", "ba", "baa", "bb", "bbb"}, []uint64{3}, func(l []api.Entry) { back(t, l) })
}

// P16.3: lists of all sizes.
func TestListsComeBack(t *testing.T) {
	c := chance(4)
	for range 1000 {
		back(t, c.list(20, 6, "abc\x00\xff"))
	}
	for range 10 {
		back(t, c.list(3000, 10, "abcdeo"))
		back(t, c.list(100, 255, "ab"))
	}
	for _, size := range []int{1, 2, 255, 256, 257, 65536, 100000} {
		back(t, many(size))
	}
}

// P16.3: other lists have other bytes.
func TestOtherListsHaveOtherBytes(t *testing.T) {
	had := map[string]int{}
	n := 0
	lists([]string{"a", "aa", "ab", "b", "ba"}, []uint64{0, 1, 2, greatest}, func(l []api.Entry) {
		n++
		had[made(t, l...)]++
	})
	if len(had) != n {
		t.Errorf("%d lists have %d bytes", n, len(had))
	}
}

// rows is all states with arcs of up to two bytes, rising, to states before this one, with small outs.
func rows(at int) []api.State {
	l := []api.State{state(), final(0), final(1)}
	for _, b := range []byte("ab") {
		for _, s := range slices.Clone(l) {
			for to := range at {
				for out := range uint64(2) {
					more := s
					more.Arcs = append(slices.Clone(s.Arcs), arc(b, out, to))
					l = append(l, more)
				}
			}
		}
	}
	return l
}

// P16.2, P16.3: of all small transducers, with each number of entries: they are a segment's just if Make makes their bytes.
func TestAllSmallTransducers(t *testing.T) {
	segments := 0
	for states := 1; states <= 3; states++ {
		f := api.Fst{States: make([]api.State, states)}
		var from func(at int)
		from = func(at int) {
			if at < states {
				for _, s := range rows(at) {
					f.States[at] = s
					from(at + 1)
				}
				return
			}
			// Of most numbers it would be that of the words that is wrong.
			words := len(valuesOf(f))
			for _, f.Init = range []uint64{0, greatest - 1, greatest} {
				for entries := max(0, words-1); entries <= words+1; entries++ {
					if asked(t, laid(t, entries, f)) {
						segments++
					}
				}
			}
		}
		from(0)
	}
	if segments < 100 {
		t.Errorf("just %d are a segment's", segments)
	}
}

// P16.2, P16.3: bytes of segments in which one byte is another one, lacks, or comes twice, sealed anew: they are a segment's just if Make makes them.
func TestChangedBytes(t *testing.T) {
	segments, others := 0, 0
	ask := func(b string) {
		if asked(t, sealed(b)) {
			segments++
		} else {
			others++
		}
	}
	for _, l := range samples() {
		b := body(made(t, l...))
		if len(b) > 200 {
			continue
		}
		for at := range len(b) {
			for other := range 256 {
				ask(b[:at] + string([]byte{byte(other)}) + b[at+1:])
			}
			ask(b[:at] + b[at+1:])
			ask(b[:at] + b[at:at+1] + b[at:])
			for _, more := range []string{"\x00", "\x01", "a", "\xff"} {
				ask(b[:at] + more + b[at:])
			}
		}
	}
	if segments < 1000 || others < 1000 {
		t.Errorf("%d are a segment's, %d are not", segments, others)
	}
}

// P16.2, P16.3: any transducers whose ways go down, with numbers of all sizes.
func TestAnyTransducers(t *testing.T) {
	c := chance(5)
	outs := append(values(), 0, 0, 0, greatest+1, 1<<63, math.MaxUint64)
	for range 20000 {
		var f api.Fst
		if c.below(3) == 0 {
			f.Init = outs[c.below(len(outs))]
		}
		for at := range 1 + c.below(6) {
			var s api.State
			if c.below(2) == 0 {
				s.Final, s.Out = true, outs[c.below(len(outs))]
			}
			for b := range c.below(4) * min(at, 1) {
				s.Arcs = append(s.Arcs, arc(byte(97+b), outs[c.below(len(outs))], c.below(at)))
			}
			f.States = append(f.States, s)
		}
		asked(t, laid(t, len(valuesOf(f)), f))
	}
}

// P1, P16.2: whatever bytes they are, Open ends, and answers OK or ErrCorrupt.
func TestOpenOfAnyBytes(t *testing.T) {
	c := chance(6)
	for range 20000 {
		b := make([]byte, c.below(40))
		for i := range b {
			b[i] = byte(c.below(256) >> c.below(9))
		}
		corrupt(t, string(b))
		asked(t, sealed(string(b)))
		asked(t, sealed("\x43\x53\x01"+string(b)))
		asked(t, sealed("\x43\x53\x01\x01\x02\x01\x00"+string(b)))
	}
	for _, b := range []string{"\x00", "\x01", "\x02", "\xff", "\x02a\x00\x01"} {
		corrupt(t, sealed("\x43\x53\x01\x01\xfb\xff\xff\xff\x7f\x01\x00"+strings.Repeat(b, 100000)))
	}
}

// turned is s with these bits turned: those in which mask has a 1, from the bit at on, by rising places, in each byte the lowest first.
func turned(s string, at int, mask uint32) string {
	b := []byte(s)
	for i := range 32 {
		if mask>>i&1 > 0 {
			b[(at+i)/8] ^= 1 << ((at + i) % 8)
		}
	}
	return string(b)
}

// P16.3: one bit is turned, or two among 32 neighbours, or many of these: it is no segment's.
func TestTurnedBits(t *testing.T) {
	c := chance(7)
	for _, l := range append(samples(), many(300)) {
		s := made(t, l...)
		for at := range 8 * len(s) {
			corrupt(t, turned(s, at, 1))
			// As many neighbours as there are from here on.
			most := min(32, 8*len(s)-at)
			if len(s) < 100 {
				for i := 1; i < most; i++ {
					corrupt(t, turned(s, at, 1|1<<i))
				}
			}
			for range 3 {
				mask := uint32(c.below(1<<31))<<1 | 1
				corrupt(t, turned(s, at, mask<<(32-most)>>(32-most)|1))
			}
			corrupt(t, turned(s, at, 1<<most-1))
		}
	}
}

// P16.3: all ways to turn bits of two neighbouring bytes, the sum's bytes among them.
func TestTurnedNeighbours(t *testing.T) {
	s := made(t, of("a", 4))
	for at := 0; at <= 8*len(s)-16; at += 8 {
		for mask := uint32(1); mask < 1<<16; mask++ {
			corrupt(t, turned(s, at, mask))
		}
	}
}

// P16.3: what is opened and asked changes no bytes that were made, and who makes them again has the same.
func TestMadeAgain(t *testing.T) {
	for _, l := range samples() {
		s, _ := segment.Make(l...)
		for range 3 {
			if again := made(t, opened(t, s).From("", len(l))...); again != s {
				t.Fatalf("%s became %s", told(s), told(again))
			}
		}
	}
}
