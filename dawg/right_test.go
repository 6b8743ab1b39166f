package dawg_test

import (
	"math"
	"slices"
	"testing"

	"cedilla/api"
	"cedilla/dawg"
)

// asked finds out whether Right is what the words say, and leaves the transducer as it was.
func asked(t *testing.T, f api.Fst) bool {
	t.Helper()
	was := copied(f)
	right, wrong := dawg.Right(f), wrongs(f)
	if right != (len(wrong) == 0) {
		t.Fatalf("Right(%s) is %t; wrong is %q", told(f), right, wrong)
	}
	if !same(f, was) {
		t.Fatalf("Right(%s) changed it to %s", told(was), told(f))
	}
	return right
}

// wrong finds out whether Right is false of a transducer, of which nothing is wrong but this, by the words.
func wrong(t *testing.T, what string, f api.Fst) {
	t.Helper()
	if l := wrongs(f); !slices.Equal(l, []string{what}) {
		t.Errorf("of %s not just %s is wrong, but %q", told(f), what, l)
	}
	if asked(t, f) {
		t.Errorf("Right(%s) is true, though %s is wrong", told(f), what)
	}
}

// right finds out whether Right is true of a transducer.
func right(t *testing.T, f api.Fst) {
	t.Helper()
	if !asked(t, f) {
		t.Errorf("Right(%s) is false", told(f))
	}
}

// P13.2: a transducer without states, and one that is a state alone.
func TestRightOfFewStates(t *testing.T) {
	for _, init := range []uint64{0, 1, greatest, math.MaxUint64} {
		wrong(t, "no states", fst(init))
		wrong(t, "no states", api.Fst{States: []api.State{}, Init: init})
		// That of the word of no bytes alone, whatever its value is.
		right(t, fst(init, final(0)))
		for _, out := range []uint64{1, 2, greatest, math.MaxUint64} {
			wrong(t, "pushed", fst(init, final(out)))
		}
		for _, to := range tos(0) {
			wrong(t, "to", fst(init, final(0, arc('a', 0, to))))
			wrong(t, "to", fst(init, state(arc('a', 0, to))))
		}
	}
	right(t, fst(0, state()))
	right(t, fst(0, api.State{Arcs: []api.Arc{}}))
	for _, n := range []uint64{1, 2, 255, 256, greatest, math.MaxUint64} {
		wrong(t, "dead", fst(n, state()))
		wrong(t, "out", fst(0, api.State{Out: n}))
		asked(t, fst(n, api.State{Out: n}))
	}
}

// tos is places to which no arc of a state may go.
func tos(at int) []int {
	return []int{at, at + 1, at + 2, at + 256, at + 1<<32, math.MaxInt32, math.MaxInt, -1, -2, -256, math.MinInt32, math.MinInt, math.MinInt + at}
}

// P13.2: arcs that go to their own state, to a later one, or to one below 0.
func TestRightOfTos(t *testing.T) {
	right(t, fst(0, final(0), state(arc('b', 0, 0)), state(arc('a', 0, 0), arc('b', 0, 1))))
	for _, to := range tos(2) {
		wrong(t, "to", fst(0, final(0), state(arc('b', 0, 0)), state(arc('a', 0, 0), arc('b', 0, to))))
		wrong(t, "to", fst(0, final(0), state(arc('b', 0, 0)), state(arc('a', 0, to), arc('b', 0, 1))))
	}
	for _, to := range tos(1) {
		wrong(t, "to", fst(0, final(0), state(arc('b', 0, to)), state(arc('a', 0, 0), arc('b', 0, 1))))
	}
	for _, to := range tos(0) {
		wrong(t, "to", fst(0, final(0, arc('c', 0, to)), state(arc('b', 0, 0)), state(arc('a', 0, 0), arc('b', 0, 1))))
	}
	// They go round.
	wrong(t, "to", fst(0, final(0), state(arc('a', 0, 2)), state(arc('a', 0, 0), arc('b', 0, 1))))
}

// P13.2: arcs whose bytes don't rise, or come twice.
func TestRightOfBytes(t *testing.T) {
	right(t, fst(0, final(0), state(arc(0, 0, 0), arc(127, 0, 0), arc(128, 0, 0), arc(255, 0, 0))))
	for _, b := range [][2]byte{{'b', 'a'}, {255, 0}, {128, 127}, {1, 0}, {255, 254}, {'a', 'a'}, {0, 0}, {255, 255}} {
		wrong(t, "bytes", fst(0, final(0), state(arc(b[0], 0, 0), arc(b[1], 0, 0))))
		wrong(t, "bytes", fst(0, final(0), state(arc(b[0], 0, 0), arc(b[1], 1, 0))))
		wrong(t, "bytes", fst(0, final(0), final(0, arc(b[0], 0, 0), arc(b[1], 0, 0)), state(arc('x', 0, 1))))
	}
	wrong(t, "bytes", fst(0, final(0), state(arc('a', 0, 0), arc('c', 0, 0), arc('b', 0, 0))))
	wrong(t, "bytes", fst(0, final(0), state(arc('b', 0, 0), arc('c', 0, 0), arc('a', 0, 0))))
	wrong(t, "bytes", fst(0, final(0), state(arc('a', 0, 0), arc('b', 0, 0), arc('b', 0, 0), arc('c', 0, 0))))
	var all []api.Arc
	for b := range 256 {
		all = append(all, arc(byte(b), uint64(b), 0))
	}
	right(t, fst(0, final(0), state(all...)))
	wrong(t, "bytes", fst(0, final(0), state(append(all, arc(0, 0, 0))...)))
	wrong(t, "bytes", fst(0, final(0), state(append(all, all...)...)))
}

// P13.2: a state that is not Final, with an Out.
func TestRightOfOuts(t *testing.T) {
	right(t, fst(0, final(0), final(1, arc('a', 0, 0)), state(arc('a', 0, 1))))
	for _, out := range []uint64{1, 2, greatest, math.MaxUint64} {
		wrong(t, "out", fst(0, final(0), api.State{Out: out, Arcs: []api.Arc{arc('a', 0, 0)}}))
		wrong(t, "out", fst(0, final(0), api.State{Out: out, Arcs: []api.Arc{arc('b', 0, 0)}}, state(arc('a', 0, 1))))
	}
}

// P13.2: a state to which nothing leads, and one that leads to nothing.
func TestRightOfLean(t *testing.T) {
	wrong(t, "lost", fst(0, final(0), final(1, arc('a', 0, 0)), state(arc('a', 0, 0))))
	wrong(t, "lost", fst(0, final(0), state(arc('b', 0, 0)), state(arc('a', 0, 0))))
	wrong(t, "lost", fst(0, final(0), state(arc('b', 0, 0)), final(0, arc('a', 0, 0))))
	// To the one that is lost another one leads that is lost.
	wrong(t, "lost", fst(0, final(0), state(arc('b', 0, 0)), state(arc('b', 0, 1)), state(arc('a', 0, 0))))
	wrong(t, "lost", fst(0, final(0), final(0, arc('x', 0, 0)), state(arc('x', 0, 0))))
	wrong(t, "lost", fst(5, final(0), final(0, arc('x', 0, 0)), state(arc('a', 0, 0))))
	wrong(t, "dead", fst(0, final(0), state(), state(arc('a', 0, 0), arc('b', 0, 1))))
	wrong(t, "dead", fst(0, state(), final(0), state(arc('a', 0, 0), arc('b', 0, 1))))
	wrong(t, "dead", fst(0, state(), final(0, arc('a', 0, 0))))
	wrong(t, "dead", fst(0, state(), final(0, arc('a', 7, 0))))
	// It goes on, but to nothing.
	wrong(t, "dead", fst(0, state(), state(arc('x', 0, 0)), final(0, arc('a', 0, 1))))
	wrong(t, "dead", fst(0, state(), state(arc('x', 0, 0)), state(arc('x', 0, 1)), final(0, arc('a', 0, 2))))
	// No state is Final, but the root does not stand alone.
	wrong(t, "dead", fst(0, state(), state(arc('a', 0, 0))))
	wrong(t, "dead", fst(0, state(), state(arc('b', 0, 0)), state(arc('a', 0, 1))))
	asked(t, fst(0, state(), state()))
	asked(t, fst(0, state(), final(0)))
	asked(t, fst(0, final(0), state()))
}

// P13.2: outs that are not pushed.
func TestRightOfPushed(t *testing.T) {
	for _, n := range []uint64{1, 2, greatest, math.MaxUint64} {
		// At the root, at the end, and between them.
		wrong(t, "pushed", fst(0, final(0), state(arc('a', n, 0))))
		wrong(t, "pushed", fst(3, final(0), state(arc('a', n, 0), arc('b', n, 0))))
		wrong(t, "pushed", fst(0, final(n), state(arc('a', 0, 0))))
		wrong(t, "pushed", fst(0, final(0), state(arc('b', n, 0)), state(arc('a', 0, 1))))
		wrong(t, "pushed", fst(0, final(0), final(n, arc('b', n, 0)), state(arc('a', 0, 1))))
		wrong(t, "pushed", fst(0, final(0), final(n, arc('b', 1, 0)), state(arc('a', 0, 1))))
		wrong(t, "pushed", fst(0, final(0), final(1, arc('b', n, 0)), final(0, arc('a', 0, 1))))
		// It is one of all outs that is 0: any arc's, or the state's own.
		right(t, fst(n, final(0), state(arc('a', 0, 0))))
		right(t, fst(n, final(0), state(arc('a', n, 0), arc('b', 0, 0))))
		right(t, fst(n, final(0), state(arc('a', 0, 0), arc('b', n, 0))))
		right(t, fst(n, final(0), state(arc('a', n, 0), arc('b', n, 0), arc('c', 0, 0))))
		right(t, fst(n, final(0), final(0, arc('b', n, 0)), state(arc('a', 0, 1))))
		right(t, fst(n, final(0), final(n, arc('b', 0, 0)), state(arc('a', 0, 1))))
		right(t, fst(n, final(0), final(0, arc('b', n, 0)), final(n, arc('a', 0, 1))))
		right(t, fst(n, final(0), final(0, arc('b', n, 0), arc('c', n, 0))))
	}
	// Of a state that is not Final its own Out, which is 0, does not count.
	wrong(t, "pushed", fst(0, final(0), state(arc('a', 1, 0), arc('b', 2, 0))))
	// The values need not be those of entries, and not even fit.
	right(t, fst(math.MaxUint64, final(0), final(0, arc('b', math.MaxUint64, 0)), state(arc('a', math.MaxUint64, 1), arc('b', 0, 0))))
}

// P13.2: states that are alike, and such as differ in one thing.
func TestRightOfAlike(t *testing.T) {
	wrong(t, "alike", fst(0, final(0), final(0), state(arc('a', 0, 0), arc('b', 0, 1))))
	wrong(t, "alike", fst(0, final(0), state(arc('x', 0, 0)), state(arc('x', 0, 0)), state(arc('a', 0, 1), arc('b', 0, 2))))
	wrong(t, "alike", fst(0, final(0), final(5, arc('x', 0, 0)), final(5, arc('x', 0, 0)), state(arc('a', 0, 1), arc('b', 0, 2))))
	wrong(t, "alike", fst(0, final(0), state(arc('x', 0, 0), arc('y', 3, 0)), state(arc('x', 0, 0), arc('y', 3, 0)), state(arc('a', 0, 1), arc('b', 7, 2))))
	// Alike are those of which one has no arcs, and one nil.
	wrong(t, "alike", fst(0, final(0), api.State{Final: true, Arcs: []api.Arc{}}, state(arc('a', 0, 0), arc('b', 0, 1))))
	// Others lie between them.
	wrong(t, "alike", fst(0, final(0), state(arc('x', 0, 0)), state(arc('y', 0, 1)), state(arc('x', 0, 0)), state(arc('a', 0, 2), arc('b', 0, 3))))
	for _, x := range []struct{ a, b api.State }{
		{state(arc('x', 0, 0)), final(0, arc('x', 0, 0))},
		{final(0, arc('x', 0, 0)), final(1, arc('x', 0, 0))},
		{final(1<<8, arc('x', 0, 0)), final(1, arc('x', 0, 0))},
		{final(1<<56, arc('x', 0, 0)), final(1<<48, arc('x', 0, 0))},
		{final(0, arc('x', 0, 0)), final(0, arc('x', 1, 0))},
		{final(0, arc('x', 1<<8, 0)), final(0, arc('x', 1, 0))},
		{final(0, arc('x', 1<<63, 0)), final(0, arc('x', 1<<62, 0))},
		{state(arc('x', 0, 0)), state(arc('y', 0, 0))},
		{state(arc(0, 0, 0)), state(arc(255, 0, 0))},
		{state(arc('x', 0, 0)), state(arc('x', 0, 1))},
		{state(arc('x', 0, 0)), state(arc('x', 0, 0), arc('y', 0, 0))},
		{state(arc('x', 0, 0), arc('y', 0, 0)), state(arc('x', 0, 0), arc('z', 0, 0))},
		{state(arc('x', 0, 0), arc('y', 1, 0)), state(arc('x', 0, 0), arc('y', 2, 0))},
		{state(arc('x', 0, 0), arc('y', 1, 0)), state(arc('x', 1, 0), arc('y', 0, 0))},
		{state(arc(0, 0, 0)), state(arc(0, 0, 0), arc(1, 0, 0))},
	} {
		right(t, fst(0, final(0), x.a, x.b, state(arc('a', 0, 1), arc('b', 0, 2))))
	}
}

// P13.2: states are not alike, if their arcs go to states whose numbers differ in higher bytes alone.
func TestRightOfManyTos(t *testing.T) {
	for _, n := range []int{255, 256, 257, 300, 65536, 65537, 65800} {
		f := chain(n)
		for at := n; at > 1; at -= 256 {
			// The root's first arc leads to the whole chain, so that these come behind it in order.
			f.States = append(f.States, state(arc('a', 0, at)))
		}
		root := state()
		for at := n; at < len(f.States); at++ {
			root.Arcs = append(root.Arcs, arc(byte(at-n), 0, at))
			if len(root.Arcs) == 256 {
				break
			}
		}
		f.States = append(f.States[:n+len(root.Arcs)], root)
		if !dawg.Right(f) {
			t.Errorf("Right of %d states is false", len(f.States))
		}
		f.States[n].Arcs = slices.Clone(f.States[n].Arcs)
		f.States[n].Arcs[0].Out = 1
		if dawg.Right(f) {
			t.Errorf("Right of %d states that are not pushed is true", len(f.States))
		}
	}
}

// chain is that of a word of n bytes.
func chain(n int) api.Fst {
	f := fst(0, final(0))
	for at := range n {
		f.States = append(f.States, state(arc('w', 0, at)))
	}
	return f
}

// P13.2: states in another order.
func TestRightOfOrder(t *testing.T) {
	right(t, fst(0, final(0), state(arc('y', 0, 0)), state(arc('z', 0, 0)), state(arc('a', 0, 1), arc('b', 0, 2))))
	wrong(t, "order", fst(0, final(0), state(arc('z', 0, 0)), state(arc('y', 0, 0)), state(arc('a', 0, 2), arc('b', 0, 1))))
	right(t, fst(0, final(0), final(0, arc('y', 0, 0)), state(arc('a', 0, 0), arc('b', 0, 1))))
	right(t, fst(0, final(0), final(0, arc('y', 0, 0)), state(arc('a', 0, 1), arc('b', 0, 0))))
	// The deeper way comes first, and has the lower numbers, all of them.
	right(t, fst(0, final(0), state(arc('x', 0, 0)), state(arc('x', 0, 1)), state(arc('y', 0, 0)), state(arc('a', 0, 2), arc('b', 0, 3))))
	wrong(t, "order", fst(0, final(0), state(arc('x', 0, 0)), state(arc('y', 0, 0)), state(arc('x', 0, 1)), state(arc('a', 0, 3), arc('b', 0, 2))))
	wrong(t, "order", fst(0, final(0), state(arc('y', 0, 0)), state(arc('x', 0, 0)), state(arc('x', 0, 2)), state(arc('a', 0, 3), arc('b', 0, 1))))
	// By depth, not by arcs.
	wrong(t, "order", fst(0, final(0), state(arc('x', 0, 0)), state(arc('y', 0, 0)), state(arc('p', 0, 1)), state(arc('q', 0, 2)), state(arc('a', 0, 3), arc('b', 0, 4))))
	right(t, fst(0, final(0), state(arc('x', 0, 0)), state(arc('p', 0, 1)), state(arc('y', 0, 0)), state(arc('q', 0, 3)), state(arc('a', 0, 2), arc('b', 0, 4))))
	// By falling bytes.
	wrong(t, "order", fst(0, final(0), state(arc('y', 0, 0)), state(arc('q', 0, 1)), state(arc('x', 0, 0)), state(arc('p', 0, 3)), state(arc('a', 0, 4), arc('b', 0, 2))))
	// One that is known already stays where it is.
	right(t, fst(0, final(0), state(arc('x', 0, 0)), state(arc('y', 0, 1)), state(arc('a', 0, 2), arc('b', 0, 1), arc('c', 0, 0))))
	right(t, fst(0, final(0), state(arc('x', 0, 0)), state(arc('y', 0, 1)), state(arc('a', 0, 0), arc('b', 0, 1), arc('c', 0, 2))))
}

// P13.2: of transducers that were right, till one thing in them was changed, Right is what the words say.
func TestRightOfChanged(t *testing.T) {
	n := numbers(3)
	rights, all := 0, 0
	for range 60 {
		l := n.list(12, 4, pairs()[n.below(3)], []uint64{0, 1, 2, greatest})
		f := built(t, l)
		changes(f, func(g api.Fst) {
			all++
			if asked(t, g) {
				rights++
				madeOfItsWords(t, g)
			}
		})
	}
	if rights == 0 || rights == all {
		t.Errorf("of %d %d are right", all, rights)
	}
}

// madeOfItsWords finds out whether what is right is what is made of its words, P13.3.
func madeOfItsWords(t *testing.T, f api.Fst) {
	t.Helper()
	if !fits(f) {
		return
	}
	values := wordsOf(f)
	if want := buildByWords(values); !same(f, want) {
		t.Fatalf("%s is right, but of its words %s is made", told(f), told(want))
	}
	for w, value := range values {
		if w == "" || value > greatest {
			// It is in no list.
			return
		}
	}
	if g := built(t, listOf(values)); !same(f, g) {
		t.Fatalf("%s is right, but of its words Build makes %s", told(f), told(g))
	}
}

// fits tells whether all numbers are so small that the values of short words fit into 64 bits.
func fits(f api.Fst) bool {
	const most = 1 << 50
	if f.Init > most {
		return false
	}
	for _, s := range f.States {
		if s.Out > most || slices.ContainsFunc(s.Arcs, func(a api.Arc) bool { return a.Out > most }) {
			return false
		}
	}
	return true
}

// changes tells what f becomes if one thing in it is another one.
func changes(f api.Fst, do func(g api.Fst)) {
	with := func(change func(g *api.Fst)) {
		g := copied(f)
		change(&g)
		do(g)
	}
	with(func(g *api.Fst) { g.Init++ })
	with(func(g *api.Fst) { g.Init-- })
	with(func(g *api.Fst) { g.States = append(g.States, api.State{}) })
	with(func(g *api.Fst) { g.States = g.States[:len(g.States)-1] })
	for at := range f.States {
		with(func(g *api.Fst) { g.States[at].Final = !g.States[at].Final })
		with(func(g *api.Fst) { g.States[at].Final, g.States[at].Out = !g.States[at].Final, 0 })
		with(func(g *api.Fst) { g.States[at].Out++ })
		with(func(g *api.Fst) { g.States[at].Out-- })
		with(func(g *api.Fst) { g.States = slices.Delete(g.States, at, at+1) })
		with(func(g *api.Fst) { without(g, at) })
		with(func(g *api.Fst) { twice(g, at) })
		with(func(g *api.Fst) { g.States[at].Arcs = append(g.States[at].Arcs, arc(255, 0, 0)) })
		with(func(g *api.Fst) { pull(g, at) })
		if at > 0 {
			with(func(g *api.Fst) { g.States[at], g.States[at-1] = g.States[at-1], g.States[at] })
			with(func(g *api.Fst) { swap(g, at) })
		}
		arcChanges(f, at, with)
	}
}

// arcChanges is the changes of one state's arcs.
func arcChanges(f api.Fst, at int, with func(func(g *api.Fst))) {
	for i, was := range f.States[at].Arcs {
		for _, b := range []byte{was.Byte + 1, was.Byte - 1, 0, 255, 'c'} {
			with(func(g *api.Fst) { g.States[at].Arcs[i].Byte = b })
		}
		for _, out := range []uint64{was.Out + 1, was.Out - 1, 0, 5, was.Out + 1<<40} {
			with(func(g *api.Fst) { g.States[at].Arcs[i].Out = out })
		}
		for to := -1; to <= len(f.States); to++ {
			with(func(g *api.Fst) { g.States[at].Arcs[i].To = to })
		}
		with(func(g *api.Fst) { g.States[at].Arcs = slices.Delete(g.States[at].Arcs, i, i+1) })
		with(func(g *api.Fst) { g.States[at].Arcs = slices.Insert(g.States[at].Arcs, i, was) })
		if i > 0 {
			with(func(g *api.Fst) {
				l := g.States[at].Arcs
				l[i], l[i-1] = l[i-1], l[i]
			})
		}
	}
}

// renumber has all arcs go where numbers say.
func renumber(f *api.Fst, to func(n int) int) {
	for _, s := range f.States {
		for i := range s.Arcs {
			s.Arcs[i].To = to(s.Arcs[i].To)
		}
	}
}

// swap has a state and the one ahead change their numbers.
func swap(f *api.Fst, at int) {
	f.States[at], f.States[at-1] = f.States[at-1], f.States[at]
	renumber(f, func(n int) int {
		switch n {
		case at:
			return at - 1
		case at - 1:
			return at
		}
		return n
	})
}

// twice has a state twice, and the last arc to it goes to the new one.
func twice(f *api.Fst, at int) {
	s := f.States[at]
	s.Arcs = slices.Clone(s.Arcs)
	renumber(f, func(n int) int {
		if n > at {
			return n + 1
		}
		return n
	})
	f.States = slices.Insert(f.States, at+1, s)
	for from := len(f.States) - 1; from > at; from-- {
		for i := len(f.States[from].Arcs) - 1; i >= 0; i-- {
			if f.States[from].Arcs[i].To == at {
				f.States[from].Arcs[i].To = at + 1
				return
			}
		}
	}
}

// without takes a state away, and all arcs to it.
func without(f *api.Fst, at int) {
	f.States = slices.Delete(f.States, at, at+1)
	for i := range f.States {
		f.States[i].Arcs = slices.DeleteFunc(f.States[i].Arcs, func(a api.Arc) bool { return a.To == at })
	}
	renumber(f, func(n int) int {
		if n > at {
			return n - 1
		}
		return n
	})
}

// pull takes 1 off what leads to a state, and puts it to all its outs, so that the values stay.
func pull(f *api.Fst, at int) {
	for i := range f.States[at].Arcs {
		f.States[at].Arcs[i].Out++
	}
	if f.States[at].Final {
		f.States[at].Out++
	}
	if at == len(f.States)-1 {
		f.Init--
	}
	for _, s := range f.States {
		for i := range s.Arcs {
			if s.Arcs[i].To == at {
				s.Arcs[i].Out--
			}
		}
	}
}

// P13.2, P1: Right ends, however long, wide, or many the ways are.
func TestRightOfGreat(t *testing.T) {
	// Long ones.
	f := chain(1 << 20)
	if !dawg.Right(f) {
		t.Error("Right of a long chain is false")
	}
	f.States[0] = state()
	if dawg.Right(f) {
		t.Error("Right of a long chain to nothing is true")
	}
	// As many words as nobody can count.
	f = fst(0, final(0))
	for at := range 5000 {
		f.States = append(f.States, state(arc('a', 0, at), arc('b', 0, at), arc('c', 0, at/2)))
	}
	if !dawg.Right(f) {
		t.Error("Right of many ways is false")
	}
	f.States[0].Out = 1
	if dawg.Right(f) {
		t.Error("Right of many ways to what is not pushed is true")
	}
	f.States[0].Out = 0
	f.States[3], f.States[4] = f.States[4], f.States[3]
	if dawg.Right(f) {
		t.Error("Right of many ways in another order is true")
	}
	// Many arcs, none of which may be.
	f = fst(0, final(0), state(make([]api.Arc, 1<<20)...))
	if dawg.Right(f) {
		t.Error("Right of a wide state is true")
	}
	// Many states to which nothing leads.
	if f = (api.Fst{States: make([]api.State, 1<<20)}); dawg.Right(f) {
		t.Error("Right of many states alone is true")
	}
}

// P13.2: Size of what is right, and of what is not.
func TestSize(t *testing.T) {
	sized(t, api.Fst{}, 0, 0)
	sized(t, fst(5), 0, 0)
	sized(t, fst(5, []api.State{}...), 0, 0)
	sized(t, fst(0, state()), 1, 0)
	sized(t, fst(7, final(3)), 1, 0)
	sized(t, fst(0, state(), state(), final(0)), 3, 0)
	sized(t, fst(0, state(arc('b', 0, -1), arc('b', 0, 0), arc('a', 0, 77))), 1, 3)
	sized(t, fst(0, final(0), state(arc('a', 0, 0), arc('a', 0, 0)), final(0), state(arc('x', 9, 1))), 4, 3)
	sized(t, fst(0, final(0), state(make([]api.Arc, 1000)...), state(make([]api.Arc, 7)...)), 3, 1007)
	for _, n := range []int{1, 2, 255, 100000} {
		sized(t, chain(n), n+1, n)
	}
	changes(built(t, []api.Entry{of("a", 1), of("ab", 0), gone("ba")}), func(g api.Fst) {
		arcs := 0
		for _, s := range g.States {
			arcs += len(s.Arcs)
		}
		sized(t, g, len(g.States), arcs)
	})
}
