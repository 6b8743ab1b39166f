package dawg_test

import (
	"slices"
	"testing"

	"cedilla/api"
	"cedilla/dawg"
)

// lists tells all lists of these words, each of them with one of the values, or not there.
func lists(words []string, values []uint64, do func(l []api.Entry)) {
	var from func(l []api.Entry, words []string)
	from = func(l []api.Entry, words []string) {
		if len(words) == 0 {
			do(l)
			return
		}
		from(l, words[1:])
		for _, value := range values {
			from(append(l, valued(words[0], value)), words[1:])
		}
	}
	from(nil, words)
}

// wordsUpTo is all words of up to so many of two bytes, rising.
func wordsUpTo(size int, bytes string) []string {
	var l []string
	var from func(w string)
	from = func(w string) {
		for i := range len(bytes) {
			next := w + bytes[i:i+1]
			l = append(l, next)
			if len(next) < size {
				from(next)
			}
		}
	}
	from("")
	return l
}

// P13.1, P13.3: all lists of short words: Build makes what the words say.
func TestBuildOfAllLists(t *testing.T) {
	for _, bytes := range pairs() {
		lists(wordsUpTo(2, bytes), []uint64{0, 1, 3}, func(l []api.Entry) { built(t, l) })
	}
	lists(wordsUpTo(3, "ab"), []uint64{4}, func(l []api.Entry) { built(t, l) })
	lists(wordsUpTo(1, "abcd"), []uint64{0, 1, 2, greatest}, func(l []api.Entry) { built(t, l) })
}

// kinds is states without arcs: Final or not, with and without an Out.
func kinds() []api.State {
	return []api.State{{}, {Final: true}, {Final: true, Out: 1}, {Out: 1}}
}

// states is all states with arcs of two bytes, rising, to states before this one, with small outs.
func states(at int, kinds []api.State) []api.State {
	l := slices.Clone(kinds)
	for _, b := range []byte("ab") {
		for _, s := range l {
			for to := range at {
				for out := range uint64(2) {
					more := s
					more.Arcs = append(slices.Clone(s.Arcs), arc(b, out, to))
					l = append(l, more)
				}
			}
		}
	}
	return l
}

// transducers tells all that have a state of each of these rows.
func transducers(rows [][]api.State, do func(f api.Fst)) {
	f := api.Fst{States: make([]api.State, len(rows))}
	var from func(at int)
	from = func(at int) {
		if at == len(rows) {
			do(f)
			return
		}
		for _, s := range rows[at] {
			f.States[at] = s
			from(at + 1)
		}
	}
	from(0)
}

// P13.2, P13.3: of all small transducers whose arcs go down and rise: right are those that are made of their words, and of no words more states are made than there were.
func TestAllSmall(t *testing.T) {
	for n := 1; n <= 3; n++ {
		var rows [][]api.State
		for at := range n {
			rows = append(rows, states(at, kinds()))
		}
		transducers(rows, func(f api.Fst) {
			for _, f.Init = range []uint64{0, 1} {
				values := wordsOf(counting(f))
				want := buildByWords(values)
				if right := asked(t, f); right != same(f, want) {
					t.Fatalf("Right(%s) is %t, but of its words %s is made", told(f), right, told(want))
				}
				notMore(t, f, values)
			}
		})
	}
}

// counting is f, in which only the outs that count are not 0.
func counting(f api.Fst) api.Fst {
	f = copied(f)
	for i, s := range f.States {
		if !s.Final {
			f.States[i].Out = 0
		}
	}
	return f
}

// P13.3: likewise of four states, of which the first one is the end of words.
func TestAllOfFourStates(t *testing.T) {
	ends := kinds()[:3]
	rows := [][]api.State{kinds()[1:2], states(1, ends[:2]), states(2, ends), states(3, ends[:2])}
	rights := 0
	transducers(rows, func(f api.Fst) {
		values := wordsOf(f)
		notMore(t, f, values)
		if _, is := values[""]; is {
			return
		}
		made, _ := dawg.Build(listOf(values))
		right := dawg.Right(f)
		if right != same(f, made) {
			t.Fatalf("Right(%s) is %t, but of its words Build makes %s", told(f), right, told(made))
		}
		if right {
			rights++
		}
	})
	if rights == 0 {
		t.Error("none is right")
	}
}

// notMore finds out whether what Build makes of these words has no more states than f, which has the words too.
func notMore(t *testing.T, f api.Fst, values map[string]uint64) {
	t.Helper()
	if _, is := values[""]; is {
		// It is in no list.
		return
	}
	made, why := dawg.Build(listOf(values))
	if states, _ := dawg.Size(made); why != api.OK || states > len(f.States) {
		t.Fatalf("of the words of %s Build makes %s, %d", told(f), told(made), why)
	}
}

// P13.2: of all that have two states or one, whatever their arcs are, Right is what the words say.
func TestAllOfTwoStates(t *testing.T) {
	var arcs []api.Arc
	for _, b := range []byte("ab") {
		for out := range uint64(2) {
			for to := -1; to < 2; to++ {
				arcs = append(arcs, arc(b, out, to))
			}
		}
	}
	row := kinds()
	for _, s := range kinds() {
		for _, a := range arcs {
			s.Arcs = []api.Arc{a}
			row = append(row, s)
			for _, b := range arcs {
				s.Arcs = []api.Arc{a, b}
				row = append(row, s)
			}
		}
	}
	for _, rows := range [][][]api.State{{row}, {row, row}} {
		transducers(rows, func(f api.Fst) {
			for _, f.Init = range []uint64{0, 1} {
				if right := dawg.Right(f); right != (len(wrongs(f)) == 0) {
					t.Fatalf("Right(%s) is %t; wrong is %q", told(f), right, wrongs(f))
				}
			}
		})
	}
}
