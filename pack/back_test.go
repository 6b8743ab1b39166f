package pack_test

import (
	"slices"
	"strings"
	"testing"

	"cedilla/api"
	"cedilla/dawg"
	"cedilla/pack"
)

// rows is all states with up to two arcs of some bytes and outs, to states before this one.
func rows(at int) []api.State {
	l := []api.State{state(), final(0), final(248)}
	kinds := slices.Clone(l)
	var ways []api.Arc
	for to := range at {
		ways = append(ways, arc('a', 0, to), arc(0xff, 300, to))
	}
	for _, s := range kinds {
		for _, a := range ways {
			s.Arcs = []api.Arc{a}
			l = append(l, s)
			for _, b := range ways {
				s.Arcs = []api.Arc{a, b}
				l = append(l, s)
			}
		}
	}
	return l
}

// P15.1, P15.3: all small transducers that may be laid.
func TestAllSmallComeBack(t *testing.T) {
	for many := 1; many <= 3; many++ {
		f := api.Fst{States: make([]api.State, many), Init: uint64(many)}
		var from func(at int)
		from = func(at int) {
			if at == many {
				laid(t, at, f)
				return
			}
			for _, s := range rows(at) {
				f.States[at] = s
				from(at + 1)
			}
		}
		from(0)
	}
}

// P15.1, P15.3: many that may be laid, of more states, with numbers of all sizes.
func TestOthersComeBack(t *testing.T) {
	c := chance(1)
	for range 3000 {
		laid(t, c.below(100001), c.fst(20))
	}
	for range 20 {
		laid(t, c.below(100001), c.fst(2000))
	}
}

// list is entries of that many words at most, rising, each once.
func list(c *chance, many int) []api.Entry {
	words := map[string]int{}
	for range many {
		var w strings.Builder
		for range 1 + c.below(8) {
			w.WriteByte("abcdeo\x00\xff"[c.below(8)])
		}
		words[w.String()] = c.below(1 << 20)
	}
	var l []api.Entry
	for w, n := range words {
		l = append(l, api.Entry{Word: w, Weight: uint32(n) << (n % 12)})
	}
	slices.SortFunc(l, func(a, b api.Entry) int { return strings.Compare(a.Word, b.Word) })
	return l
}

// P15.3: what is made of lists comes back, and is still right.
func TestListsComeBack(t *testing.T) {
	c := chance(2)
	for _, many := range []int{0, 1, 2, 3, 10, 100, 1000, 20000} {
		for range 5 {
			l := list(&c, many)
			s := laid(t, len(l), built(t, l...))
			if a := got(t, s); a.entries != len(l) || !dawg.Right(a.f) {
				t.Fatalf("of %d entries comes %s", len(l), a)
			}
		}
	}
}

// turned is s with these bits turned: those in which mask has a 1, from the bit at on, by rising places, in each byte the lowest first.
func turned(s string, at int, mask uint32) string {
	b := []byte(s)
	for i := range 32 {
		if mask>>i&1 > 0 {
			b[(at+i)/8] ^= 1 << ((at + i) % 8)
		}
	}
	return string(b)
}

// P15.3: one bit is turned, or two among 32 neighbours, or many of these: it is no seal.
func TestTurnedBits(t *testing.T) {
	no := answer{code: api.ErrSum}
	c := chance(4)
	for _, sample := range samples(t) {
		s := laid(t, sample.entries, sample.f)
		for at := range 8 * len(s) {
			comes(t, turned(s, at, 1), no)
			// As many neighbours as there are from here on.
			most := min(32, 8*len(s)-at)
			if len(s) < 100 {
				for i := 1; i < most; i++ {
					comes(t, turned(s, at, 1|1<<i), no)
				}
			}
			for range 3 {
				mask := uint32(c.below(1<<31))<<1 | 1
				comes(t, turned(s, at, mask<<(32-most)>>(32-most)|1), no)
			}
			comes(t, turned(s, at, 1<<most-1), no)
		}
	}
}

// P15.3: all ways to turn bits of two neighbouring bytes, and the sum's bits among them.
func TestTurnedNeighbours(t *testing.T) {
	s := laid(t, 1, built(t, api.Entry{Word: "a", Weight: 4}))
	for at := 0; at <= 8*len(s)-16; at += 8 {
		for mask := uint32(1); mask < 1<<16; mask++ {
			if _, _, err := pack.Get(turned(s, at, mask)); err == nil {
				t.Fatalf("Get(%s) answers no error", toldBytes(turned(s, at, mask)))
			}
		}
	}
}

// P15.2: what Get answers is the caller's: no two lists of it share memory, and no two answers.
func TestAnswersAreNew(t *testing.T) {
	for _, c := range samples(t) {
		s := laid(t, c.entries, c.f)
		_, f, _ := pack.Get(s)
		for i := range f.States {
			// What stands behind a list in memory would be changed.
			_ = append(f.States[i].Arcs, slices.Repeat([]api.Arc{arc(9, 9, 9)}, 300)...)
			_ = append(f.States[i].Arcs, arc(8, 8, 8))
		}
		_ = append(f.States, final(9))
		if !same(f, c.f) {
			t.Fatalf("%s became %s", told(c.f), told(f))
		}
		for i := range f.States {
			for j := range f.States[i].Arcs {
				f.States[i].Arcs[j] = arc(7, 7, 7)
			}
			f.States[i] = final(7)
		}
		comes(t, s, answer{entries: c.entries, f: c.f})
	}
}

// P15.1: what is handed in is not kept: to change it later changes nothing in the bytes.
func TestPutKeepsNothing(t *testing.T) {
	for _, c := range samples(t) {
		want := sealed(bodyOf(c.entries, c.f))
		f := copied(c.f)
		s, _ := pack.Put(c.entries, f)
		for i := range f.States {
			for j := range f.States[i].Arcs {
				f.States[i].Arcs[j] = arc(7, 7, 7)
			}
			f.States[i] = final(7)
		}
		if s != want {
			t.Fatalf("%s became %s", toldBytes(want), toldBytes(s))
		}
	}
}

// P1: whatever bytes they are, Get ends, and says of all but seals that they are none.
func TestGetOfAnyBytes(t *testing.T) {
	c := chance(5)
	for range 20000 {
		b := make([]byte, c.below(40))
		for i := range b {
			b[i] = byte(c.below(256))
		}
		comes(t, string(b), byWords(string(b)))
		read(t, string(b))
		read(t, "\x43\x53\x01"+string(b))
	}
	for _, b := range []string{"\x00", "\x01", "\xff", "\x02a"} {
		read(t, "\x43\x53\x01\x00\xfb\xff\xff\xff\x7f"+strings.Repeat(b, 100000))
	}
}
