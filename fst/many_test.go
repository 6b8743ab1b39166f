package fst_test

import (
	"math"
	"slices"
	"strings"
	"testing"

	"cedilla/api"
	"cedilla/fst"
)

// P14.2, P14.3: many states, and words without number: all is answered at once.
func TestManyStates(t *testing.T) {
	const size = 100000
	f := chain(size, "ab")
	soon(t, "a long chain", func() {
		countIs(t, f, 0, false)
		longestIs(t, f, size)
		greatestIs(t, f, 0, true)
		noAll(t, f)
		first := strings.Repeat("a", size)
		valueIs(t, f, first, 0)
		hasNone(t, f, first[1:])
		hasNone(t, f, first+"a")
		fromIs(t, f, "", 3, gone(first), gone(first[1:]+"b"), gone(first[2:]+"ba"))
		middle := first[:size/2] + strings.Repeat("b", size/2)
		fromIs(t, f, middle, 2, gone(middle), gone(first[:size/2-1]+"b"+first[size/2:]))
		final := strings.Repeat("b", size)
		fromIs(t, f, final, 9, gone(final))
		fromIs(t, f, final+"\x00", 9)
		fromIs(t, f, "c", 9)
		// Each way costs 1, so that the greatest value is that of its size.
		for at := range f.States {
			for i := range f.States[at].Arcs {
				f.States[at].Arcs[i].Out = uint64(i)
			}
		}
		greatestIs(t, f, size, true)
		fromIs(t, f, final, 9, valued(final, size))
	})
}

// P14.3: ways without number that lead to nothing are not gone.
func TestManyWaysToNothing(t *testing.T) {
	for _, size := range []int{40, 64, 1000, 50000} {
		f := chain(size, "abc")
		f.States[0].Final = false
		soon(t, "a chain to nothing", func() {
			countIs(t, f, 0, true)
			longestIs(t, f, -1)
			greatestIs(t, f, 0, false)
			fromIs(t, f, "", 9)
			fromIs(t, f, "bbb", math.MaxInt)
			allIs(t, f)
			hasNone(t, f, strings.Repeat("a", size))
			// Ahead of, between and behind them there are words.
			f.States = append(f.States, final(4))
			f.States = append(f.States, final(1, arc('b', 0, size), arc('a', 0, size+1), arc('c', 0, size+1), arc('d', 0, size), arc('e', 0, size+1)))
			countIs(t, f, 4, true)
			longestIs(t, f, 1)
			greatestIs(t, f, 4, true)
			allIs(t, f, of("", 0), of("a", 3), of("c", 3), of("e", 3))
			fromIs(t, f, "b", 1, of("c", 3))
			fromIs(t, f, "baa", 2, of("c", 3), of("e", 3))
			fromIs(t, f, "daa", 2, of("e", 3))
		})
	}
}

// P14.3: words without number whose values are none of an entry are left out, and not gone through.
func TestManyWordsThatAreLeftOut(t *testing.T) {
	for _, size := range []int{40, 64, 1000, 50000} {
		for _, out := range tooGreat() {
			f := chain(size, "abc")
			f.States[0].Out = out
			f.States = append(f.States, final(4))
			f.States = append(f.States, final(1, arc('a', 0, size+1), arc('b', 0, size), arc('c', 0, size+1), arc('d', 0, size), arc('e', 0, size+1)))
			soon(t, "a chain of great values", func() {
				countIs(t, f, 0, false)
				longestIs(t, f, size+1)
				greatestIs(t, f, 0, false)
				noAll(t, f)
				fromIs(t, f, "", math.MaxInt, of("", 0), of("a", 3), of("c", 3), of("e", 3))
				fromIs(t, f, "", 3, of("", 0), of("a", 3), of("c", 3))
				fromIs(t, f, "b", 1, of("c", 3))
				fromIs(t, f, "bb", 2, of("c", 3), of("e", 3))
				fromIs(t, f, "d", 2, of("e", 3))
				f.Init = out
				fromIs(t, f, "", math.MaxInt)
			})
		}
	}
	// Cut off, these values would be 0, or an entry's.
	for _, init := range []uint64{1 << 63, math.MaxUint64, 2 * greatest, greatest + 1} {
		for _, value := range []uint64{0, 1, greatest} {
			f := chain(64, "ab")
			f.Init = init
			f.States[0].Out = value - init
			soon(t, "a chain of values that don't fit", func() {
				fromIs(t, f, "", math.MaxInt)
				f.States[40].Arcs[0].Out, f.States[40].Arcs[1].Out = value-init, value-init
				f.States[0].Out = 0
				fromIs(t, f, "", math.MaxInt)
				greatestIs(t, f, 0, false)
			})
		}
	}
	// Each way by b costs as much as a value may be: of all words just those with one b at most are entries'.
	for _, size := range []int{40, 64, 1000} {
		f := chain(size, "ab")
		for at := range f.States {
			for i := range f.States[at].Arcs {
				f.States[at].Arcs[i].Out = uint64(i) * greatest
			}
		}
		soon(t, "a chain of few entries", func() {
			l := fst.From(f, "", math.MaxInt)
			if len(l) != size+1 || l[0] != gone(strings.Repeat("a", size)) {
				t.Fatalf("From is %s", toldList(l))
			}
			for i, e := range l[1:] {
				want := of(strings.Repeat("a", size-1-i)+"b"+strings.Repeat("a", i), math.MaxUint32)
				if e != want {
					t.Fatalf("of %d the %d. entry is %s", size, i, toldList([]api.Entry{e}))
				}
			}
			noAll(t, f)
		})
	}
	// The first words of all, without number, are none; the last one is an entry's.
	f := chain(64, "ab")
	for at := range f.States {
		for i := range f.States[at].Arcs {
			f.States[at].Arcs[i].Out = uint64(1-i) * (greatest + 1)
		}
	}
	soon(t, "a chain with one entry", func() {
		fromIs(t, f, "", math.MaxInt, gone(strings.Repeat("b", 64)))
		fromIs(t, f, strings.Repeat("ab", 32), 1, gone(strings.Repeat("b", 64)))
	})
}

// P14.1 to P14.3: states with very many arcs, of which few count.
func TestManyArcs(t *testing.T) {
	states := []api.State{final(0)}
	var arcs []api.Arc
	for i := range 3000 {
		arcs = append(arcs, arc("ba"[i%2], uint64(i), -1), arc("dc"[i%2], uint64(i), 0))
	}
	for i := range 300 {
		arcs = slices.Clone(arcs)
		for k := range arcs {
			if arcs[k].To >= 0 {
				arcs[k].To = i
			}
		}
		states = append(states, state(arcs...))
	}
	f := made(0, states...)
	soon(t, "many arcs", func() {
		bytesAre(t, f, 300, "cd")
		countIs(t, f, 0, false)
		longestIs(t, f, 300)
		greatestIs(t, f, 300, true)
		l := fst.From(f, "", 10000)
		if len(l) != 10000 || l[0] != of(strings.Repeat("c", 300), 299) || !slices.IsSortedFunc(l, func(a, b api.Entry) int { return byBytes(a.Word, b.Word) }) {
			t.Fatalf("From is %s", toldList(l))
		}
	})
}

// P14.4: the transducer of a list, read again: the list is all of it, each word is got, no other row, and from each word on just the rest comes.
func readAgain(t *testing.T, l []api.Entry) {
	t.Helper()
	f := built(t, l...)
	asSaid(t, f)
	allIs(t, f, l...)
	countIs(t, f, len(l), true)
	had := map[string]api.Entry{}
	var rows []string
	for i, e := range l {
		had[e.Word] = e
		if x, is := fst.Get(f, e.Word); x != e || !is {
			t.Fatalf("of %s Get of %s is %v, %t", toldList(l), short(e.Word), x, is)
		}
		fromIs(t, f, e.Word, len(l), l[i:]...)
		fromIs(t, f, e.Word, 1, e)
		fromIs(t, f, e.Word+"\x00", len(l)+1, l[i+1:]...)
		for n := range len(e.Word) {
			rows = append(rows, e.Word[:n], e.Word[n:], e.Word[:n]+e.Word, e.Word[:n]+"\x00"+e.Word[n:], e.Word[:n]+"\xff"+e.Word[n+1:])
		}
	}
	for _, w := range rows {
		x, is := fst.Get(f, w)
		if want, has := had[w]; is != has || x != want {
			t.Fatalf("of %s Get of %s is %v, %t", toldList(l), short(w), x, is)
		}
		if len(l) <= 40 {
			fromIs(t, f, w, len(l), fromOf(l, w, len(l))...)
		}
	}
}

// P14.4: of many lists, whatever begins and ends alike.
func TestListsAreReadAgain(t *testing.T) {
	readAgain(t, nil)
	n := numbers(4)
	for _, bytes := range []string{"a", "ab", "abc", "\x00\xff", "\x7f\x80", "\x00\x01\xfe\xff"} {
		for _, some := range [][]uint64{{5}, {0, 1}, {1, 2, 3}, {0, 7, greatest}, values()} {
			for _, size := range []int{1, 2, 3, 5, 9} {
				for range 4 {
					readAgain(t, n.list(30, size, bytes, some))
				}
			}
		}
	}
	readAgain(t, []api.Entry{of(strings.Repeat("w", 255), 1)})
	readAgain(t, []api.Entry{of(strings.Repeat("w", 254), 1), of(strings.Repeat("w", 255), math.MaxUint32)})
	readAgain(t, n.list(60, 255, "ab", values()))
}

// P14.4: of all lists of short words, with two values.
func TestAllShortListsAreReadAgain(t *testing.T) {
	words := []string{"a", "aa", "ab", "b", "ba", "bb"}
	var from func(l []api.Entry, words []string)
	from = func(l []api.Entry, words []string) {
		if len(words) == 0 {
			readAgain(t, l)
			return
		}
		from(l, words[1:])
		from(append(slices.Clip(l), gone(words[0])), words[1:])
		from(append(slices.Clip(l), of(words[0], 2)), words[1:])
	}
	from(nil, words)
}

// P14.4: of a list of as many entries as there may be.
func TestGreatListIsReadAgain(t *testing.T) {
	n := numbers(9)
	some := map[string]uint64{}
	for len(some) < api.MaxEntries {
		w := make([]byte, 3+n.below(12))
		for i := range w {
			w[i] = byte('a' + n.below(20))
		}
		some[string(w)] = values()[n.below(len(values()))]
	}
	var l []api.Entry
	for w, value := range some {
		l = append(l, valued(w, value))
	}
	slices.SortFunc(l, func(a, b api.Entry) int { return byBytes(a.Word, b.Word) })
	f := built(t, l...)
	soon(t, "a great list", func() {
		allIs(t, f, l...)
		countIs(t, f, api.MaxEntries, true)
		for i, e := range l {
			valueIs(t, f, e.Word, some[e.Word])
			if _, is := some[e.Word+"a"]; !is {
				hasNone(t, f, e.Word+"a")
			}
			if i%5000 == 0 || i == len(l)-1 {
				fromIs(t, f, e.Word, math.MaxInt, l[i:]...)
				fromIs(t, f, e.Word, 100, l[i:min(i+100, len(l))]...)
				fromIs(t, f, e.Word+"\x00", 3, l[i+1:min(i+4, len(l))]...)
			}
		}
	})
}
