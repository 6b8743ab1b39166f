package pack_test

import (
	"math"
	"slices"
	"testing"

	"cedilla/api"
	"cedilla/dawg"
	"cedilla/pack"
)

// laid finds out whether Put and Size answer of what may be laid what the words say, and whether it comes back; and is its bytes.
func laid(t *testing.T, entries int, f api.Fst) string {
	t.Helper()
	if l := wrongs(entries, f); len(l) > 0 {
		t.Fatalf("%d, %s may not be laid: %q", entries, told(f), l)
	}
	was := copied(f)
	want := sealed(bodyOf(entries, f))
	s, e := pack.Put(entries, f)
	if s != want || e != api.OK {
		t.Fatalf("Put(%d, %s) is %s, %d, not %s", entries, told(f), toldBytes(s), e, toldBytes(want))
	}
	if n := pack.Size(entries, f); n != len(want) {
		t.Fatalf("Size(%d, %s) is %d, not %d", entries, told(f), n, len(want))
	}
	if !same(f, was) {
		t.Fatalf("%s was changed to %s", told(was), told(f))
	}
	comes(t, s, answer{entries: entries, f: f})
	return s
}

// notLaid finds out whether Put and Size say that something may not be laid, of which nothing is wrong but this, by the words.
func notLaid(t *testing.T, what string, entries int, f api.Fst) {
	t.Helper()
	if l := wrongs(entries, f); !slices.Equal(l, []string{what}) {
		t.Fatalf("of %d, %s not just %s is wrong, but %q", entries, told(f), what, l)
	}
	refused(t, entries, f)
}

// refused finds out whether Put and Size say that something may not be laid.
func refused(t *testing.T, entries int, f api.Fst) {
	t.Helper()
	was := copied(f)
	if s, e := pack.Put(entries, f); s != "" || e != api.ErrArg {
		t.Errorf("Put(%d, %s) is %s, %d", entries, told(f), toldBytes(s), e)
	}
	if n := pack.Size(entries, f); n != 0 {
		t.Errorf("Size(%d, %s) is %d", entries, told(f), n)
	}
	if !same(f, was) {
		t.Errorf("%s was changed to %s", told(was), told(f))
	}
}

// built is the transducer of a list.
func built(t *testing.T, l ...api.Entry) api.Fst {
	t.Helper()
	f, e := dawg.Build(l)
	if e != api.OK {
		t.Fatalf("Build(%v) answers %d", l, e)
	}
	return f
}

// some is a transducer that may be laid, whose last state may have arcs to three others.
func some(last api.State) api.Fst {
	return fst(7, final(3), state(arc('b', 300, 0)), final(0, arc('b', 1, 1), arc('a', 0, 0)), last)
}

// P15.1: the examples of the chapter, and the sum of the first one by hand.
func TestExamplesOfPut(t *testing.T) {
	for _, c := range []struct {
		entries int
		f       api.Fst
		body    string
	}{
		{0, fst(0, state()), "\x43\x53\x01\x00\x01\x00\x00"},
		{1, built(t, api.Entry{Word: "a", Weight: 4}), "\x43\x53\x01\x01\x02\x01\x00\x02\x61\x00\x01\x05"},
		{0, built(t), "\x43\x53\x01\x00\x01\x00\x00"},
	} {
		if s := laid(t, c.entries, c.f); s != sealed(c.body) {
			t.Errorf("Put(%d, %s) is %s", c.entries, told(c.f), toldBytes(s))
		}
	}
}

// P15.1: each place of a number, with a number of bytes of its own.
func TestPutByHand(t *testing.T) {
	f := fst(1<<16, final(300), state(arc(0xff, 256, 0)), final(math.MaxUint64, arc('b', 0, 0), arc('a', 248, 1)))
	want := "\x43\x53\x01" + "\xfa\xa0\x86\x01" + "\x03" +
		"\x01" + "\xf9\x2c\x01" +
		"\x02" + "\xff\xf9\x00\x01\x01" +
		"\x05" + "\xff\xff\xff\xff\xff\xff\xff\xff\xff" + "\x62\x00\x02" + "\x61\xf8\xf8\x01" +
		"\xfa\x00\x00\x01"
	if s := laid(t, 100000, f); s != sealed(want) {
		t.Errorf("Put is %s, not %s", toldBytes(s), toldBytes(sealed(want)))
	}
	if n := pack.Size(100000, f); n != 43 {
		t.Errorf("Size is %d", n)
	}
}

// P15.1: entries from 0 to 100000, and beside these.
func TestPutOfEntries(t *testing.T) {
	all := []api.Fst{fst(0, state()), some(final(9)), some(state(arc('x', 0, 2)))}
	for _, f := range all {
		for _, entries := range []int{0, 1, 2, 246, 247, 248, 255, 256, 257, 65535, 65536, 99999, 100000} {
			laid(t, entries, f)
		}
		for _, entries := range []int{-1, -2, -247, -100000, math.MinInt32, math.MinInt, math.MinInt + 1, 100001, 100002, 1 << 20, 1 << 32, 1<<32 + 1, math.MaxInt - 1, math.MaxInt} {
			notLaid(t, "entries", entries, f)
		}
	}
}

// P15.1: a transducer without states, nil or not.
func TestPutOfNoStates(t *testing.T) {
	for _, entries := range []int{0, 1, 100000} {
		for _, init := range []uint64{0, 1, math.MaxUint64} {
			notLaid(t, "no states", entries, fst(init))
			notLaid(t, "no states", entries, api.Fst{States: []api.State{}, Init: init})
		}
	}
}

// P15.1: one state: Final or not, with each Out and each Init.
func TestPutOfOneState(t *testing.T) {
	for _, n := range numbers() {
		for _, init := range numbers() {
			laid(t, 1, fst(init, final(n)))
		}
		laid(t, 1, fst(n, state()))
		laid(t, 1, fst(n, api.State{Arcs: []api.Arc{}}))
	}
}

// P15.1: numbers of each size as the Outs of arcs and of states.
func TestPutOfOuts(t *testing.T) {
	for _, n := range numbers() {
		for _, m := range []uint64{0, 1, 248, math.MaxUint64} {
			laid(t, 3, fst(m, final(n), state(arc('a', m, 0), arc('b', n, 0)), final(m, arc('c', n, 1))))
			laid(t, 3, fst(n, final(m), final(n, arc('a', n, 0), arc('b', m, 0), arc('c', n, 0)), state()))
		}
	}
}

// P15.1: states with up to 256 arcs, and with more, at each place.
func TestPutOfArcs(t *testing.T) {
	for many := range 257 {
		laid(t, 1, fst(0, state(), state(arcs(many)...)))
		laid(t, 1, fst(0, state(), final(uint64(many), arcs(many)...), state(arc('z', 0, 1))))
	}
	for _, many := range []int{257, 258, 300, 511, 512, 513, 1000, 65536, 65792} {
		notLaid(t, "arcs", 1, fst(0, state(), state(arcs(many)...)))
		notLaid(t, "arcs", 1, fst(0, state(), final(0, arcs(many)...)))
		notLaid(t, "arcs", 1, fst(0, state(), final(0, arcs(many)...), state(arc('z', 0, 1))))
		notLaid(t, "arcs", 1, fst(0, state(), state(), state(arcs(many)...), final(0, arcs(256)...)))
	}
	// Many in all, but no state has too many.
	laid(t, 1, fst(0, final(0), final(0, arcs(256)...), state(arcs(256)...), final(1, arcs(256)...)))
}

// P15.1: bytes that don't rise, and such as come twice, are laid as they are, with all bytes there are.
func TestPutOfBytes(t *testing.T) {
	for b := range 256 {
		laid(t, 1, fst(0, final(0), state(arc(byte(b), 0, 0))))
		laid(t, 1, fst(0, final(0), state(arc(byte(b), 1, 0), arc('x', 2, 0), arc(byte(255-b), 3, 0))))
		laid(t, 1, fst(0, final(0), state(arc(byte(b), 1, 0), arc(byte(b), 2, 0), arc(byte(b), 1, 0))))
	}
	down := arcs(256)
	slices.Reverse(down)
	laid(t, 1, fst(0, final(0), state(down...)))
	laid(t, 1, fst(0, final(0), state(slices.Repeat([]api.Arc{arc('a', 0, 0)}, 256)...)))
}

// tos is places to which no arc of a state may go.
func tos(at int) []int {
	return []int{at, at + 1, at + 2, at + 256, at + 1<<32, math.MaxInt32, math.MaxInt, -1, -2, -256, math.MinInt32, math.MinInt, math.MinInt + at}
}

// P15.1: arcs that go to their own state, to a later one, to one that there is not, or to a number below 0.
func TestPutOfTos(t *testing.T) {
	for _, to := range tos(0) {
		notLaid(t, "to", 1, fst(0, state(arc('a', 0, to))))
		notLaid(t, "to", 1, fst(0, final(0, arc('a', 0, to)), state(arc('b', 0, 0))))
	}
	for _, to := range tos(2) {
		notLaid(t, "to", 1, fst(0, final(0), state(), state(arc('a', 0, to))))
		notLaid(t, "to", 1, fst(0, final(0), state(), final(0, arc('a', 0, to)), state()))
		notLaid(t, "to", 1, fst(0, final(0), state(), state(arc('a', 0, 1), arc('b', 0, 0), arc('c', 0, to)), state()))
		notLaid(t, "to", 1, fst(0, final(0), state(), state(arc('a', 0, to), arc('b', 0, 0)), state(), final(0)))
	}
	for own := 1; own < 5; own++ {
		for to := range own {
			laid(t, 1, fst(0, append(make([]api.State, own), state(arc('a', 0, to)), final(0))...))
		}
	}
}

// P15.1: an Out that is not 0 of a state that is not Final.
func TestPutOfOutsThatDontCount(t *testing.T) {
	for _, n := range numbers() {
		if n == 0 {
			continue
		}
		notLaid(t, "out", 1, fst(0, api.State{Out: n}))
		notLaid(t, "out", 1, fst(0, api.State{Out: n}, final(n)))
		notLaid(t, "out", 1, fst(0, final(n), api.State{Out: n, Arcs: arcs(1)}))
		notLaid(t, "out", 1, fst(0, final(n), state(), api.State{Out: n, Arcs: arcs(9)}, final(0)))
	}
}

// P15.1, P1: several things are wrong at once.
func TestPutOfSeveralWrongs(t *testing.T) {
	for _, entries := range []int{-1, 0, 100001, math.MinInt, math.MaxInt} {
		for _, f := range []api.Fst{
			{}, fst(math.MaxUint64), fst(0, api.State{Out: 1, Arcs: arcs(257)}),
			fst(1, state(arc('a', 1, -1)), api.State{Out: 9}), fst(0, final(0), state(arcs(300)...), api.State{Out: 7, Arcs: []api.Arc{arc(0, 0, 2)}}),
		} {
			if len(wrongs(entries, f)) > 0 {
				refused(t, entries, f)
			}
		}
	}
}

// P15.1: as many states, and arcs as far, as need more bytes for their numbers.
func TestPutOfManyStates(t *testing.T) {
	for _, many := range []int{1, 2, 246, 247, 248, 249, 255, 256, 257, 65535, 65536, 65537} {
		laid(t, 1, fst(1, make([]api.State, many)...))
		f := fst(0, slices.Repeat([]api.State{final(0)}, many)...)
		for _, to := range []int{0, 1, many / 2, many - 2, many - 1} {
			if to >= 0 && to < many {
				laid(t, 1, fst(1, append(slices.Clone(f.States), state(arc('a', 2, to), arc('b', 0, 0)))...))
			}
		}
	}
}
