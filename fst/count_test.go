package fst_test

import (
	"math"
	"slices"
	"strings"
	"testing"

	"cedilla/api"
	"cedilla/fst"
)

// chain is a transducer of one word's end, and so many states ahead of that, from each of which ways by all these bytes lead to the next one.
func chain(size int, bytes string) api.Fst {
	states := make([]api.State, 1, size+1)
	states[0].Final = true
	for i := range size {
		var s api.State
		for _, b := range []byte(bytes) {
			s.Arcs = append(s.Arcs, arc(b, 0, i))
		}
		states = append(states, s)
	}
	return api.Fst{States: states}
}

// digits is the bytes of ten ways.
const digits = "0123456789"

// P14.2, P14.3: as many words as there may be entries, and some more or less.
func TestCountAtMaxEntries(t *testing.T) {
	f := chain(5, digits)
	countIs(t, f, 100000, true)
	longestIs(t, f, 5)
	l, is := fst.All(f)
	if len(l) != 100000 || !is || l[0] != gone("00000") || l[12345] != gone("12345") || l[99999] != gone("99999") {
		t.Errorf("All is %s, %t", toldList(l), is)
	}
	root := &f.States[5]
	root.Arcs[9].To = 3
	countIs(t, f, 91000, true)
	root.Arcs[9].To = 4
	for _, x := range []struct {
		to, count int
		is        bool
	}{
		// One more way, to one word, ten, a hundred, ..
		{0, 0, false}, {1, 0, false}, {2, 0, false}, {3, 0, false}, {4, 0, false},
		// .. and to none.
		{5, 100000, true}, {-1, 100000, true},
	} {
		more := copied(f)
		more.States[5].Arcs = append(more.States[5].Arcs, arc('x', 0, x.to))
		countIs(t, more, x.count, x.is)
		if l, is := fst.All(more); is != x.is || len(l) != x.count {
			t.Errorf("of %d: All is %d, %t", x.to, len(l), is)
		}
		if l := fst.From(more, "", math.MaxInt); !x.is && len(l) <= 100000 || x.is && len(l) != 100000 {
			t.Errorf("of %d: From has %d", x.to, len(l))
		}
	}
	// The word of no bytes is one too.
	root.Final = true
	countIs(t, f, 0, false)
	noAll(t, f)
	root.Arcs[9].To = 2
	countIs(t, f, 90101, true)
	// Words are counted whatever their values are.
	f.Init = greatest + 1
	countIs(t, f, 90101, true)
	noAll(t, f)
}

// P14.2: each number of words near to the greatest one.
func TestCountOfEachNumber(t *testing.T) {
	for more := -300; more <= 300; more++ {
		f := chain(5, digits)
		// One way to 10000 less, and those to as many as there shall be.
		f.States[5].Arcs = f.States[5].Arcs[:9]
		rest := 10000 + more
		var ends []api.State
		for i, n := 0, rest; n > 0; i++ {
			some := min(n, 256)
			var arcs []api.Arc
			for b := range some {
				arcs = append(arcs, arc(byte(b), 0, 0))
			}
			ends = append(ends, state(arcs...))
			n -= some
		}
		root := f.States[5]
		f.States = append(f.States[:5:5], ends...)
		for i := range ends {
			root.Arcs = append(root.Arcs, arc(byte('A'+i), 0, 5+i))
		}
		f.States = append(f.States, root)
		if want := 100000 + more; more <= 0 {
			countIs(t, f, want, true)
		} else {
			countIs(t, f, 0, false)
		}
	}
}

// P14.2, P14.3: so many words that their number does not fit into 32 or 64 bits; cut off it would be 0, or small.
func TestCountOfVeryMany(t *testing.T) {
	for _, x := range []struct {
		size  int
		bytes string
	}{
		{17, "ab"}, {20, "ab"}, {31, "ab"}, {32, "ab"}, {33, "ab"}, {62, "ab"}, {63, "ab"}, {64, "ab"}, {65, "ab"}, {127, "ab"}, {128, "ab"}, {129, "ab"}, {1000, "ab"},
		{16, "abcd"}, {32, "abcd"}, {40, "abc"}, {41, "abc"}, {19, digits}, {20, digits}, {6, digits},
	} {
		f := chain(x.size, x.bytes)
		soon(t, "a chain of "+x.bytes, func() {
			countIs(t, f, 0, false)
			longestIs(t, f, x.size)
			greatestIs(t, f, 0, true)
			noAll(t, f)
			first := strings.Repeat(x.bytes[:1], x.size)
			second := first[1:] + x.bytes[1:2]
			fromIs(t, f, "", 2, gone(first), gone(second))
			final := strings.Repeat(x.bytes[len(x.bytes)-1:], x.size)
			fromIs(t, f, final, 9, gone(final))
			fromIs(t, f, final+"a", 9)
			// One more word, so that the number cut off would be 1.
			f.States[len(f.States)-1].Final = true
			countIs(t, f, 0, false)
			fromIs(t, f, "", 2, gone(""), gone(first))
		})
	}
	// 256 ways each.
	var all []byte
	for b := range 256 {
		all = append(all, byte(b))
	}
	for _, size := range []int{3, 4, 7, 8, 9, 16} {
		f := chain(size, string(all))
		countIs(t, f, 0, false)
		noAll(t, f)
	}
	countIs(t, chain(2, string(all)), 65536, true)
}

// P14.2: Longest of short words beside long ones, and of ways that lead to nothing.
func TestLongest(t *testing.T) {
	f := made(0, final(0), state(arc('a', 0, 0)), state(arc('a', 0, 1)), state(arc('a', 0, 2), arc('b', 0, 0)), state(arc('a', 0, 0), arc('b', 0, 3)))
	longestIs(t, f, 4)
	// The longest one is not behind the greatest byte, nor the first one.
	f = made(0, final(0), state(arc('a', 0, 0)), state(arc('a', 0, 0), arc('b', 0, 1), arc('c', 0, 0)))
	longestIs(t, f, 2)
	// Long ways that lead to nothing don't count.
	f = made(0, final(0), state(), state(arc('a', 0, 1)), state(arc('a', 0, 2)), state(arc('a', 0, 3), arc('b', 0, 0)))
	longestIs(t, f, 1)
	allIs(t, f, gone("b"))
	f = made(0, final(0), state(), state(arc('a', 0, 1)), state(arc('a', 0, 2)), final(0, arc('a', 0, 3)))
	longestIs(t, f, 0)
	f = made(0, state(), state(arc('a', 0, 0)), state(arc('a', 0, 1)))
	longestIs(t, f, -1)
	// Nor do words that don't begin at the root.
	f = made(0, final(0), final(0, arc('a', 0, 0)), final(0, arc('a', 0, 1)), state(arc('b', 0, 0)))
	longestIs(t, f, 1)
	f = made(0, final(0), final(0, arc('a', 0, 0)), state())
	longestIs(t, f, -1)
	countIs(t, f, 0, true)
	allIs(t, f)
	// Words are as long as they are, whatever their values are.
	f = made(0, final(math.MaxUint64), state(arc('a', 0, 0)), final(0, arc('a', 7, 1)))
	longestIs(t, f, 2)
}

// P14.2: Greatest without words, and beside what is no word.
func TestGreatest(t *testing.T) {
	greatestIs(t, made(5, state()), 0, false)
	greatestIs(t, made(5, state(), state(arc('a', 1, 0))), 0, false)
	greatestIs(t, made(5, final(0), state()), 0, false)
	greatestIs(t, made(5, final(0), state(arc('a', 1, 1))), 0, false)
	// Outs of ways that lead to nothing don't count, nor those of states to which no way leads.
	greatestIs(t, made(5, final(1), state(), state(arc('a', math.MaxUint64, 1), arc('b', 3, 0))), 9, true)
	greatestIs(t, made(5, final(1), final(math.MaxUint64), state(arc('b', 3, 0))), 9, true)
	greatestIs(t, made(5, final(1), final(7, arc('x', greatest, 0)), state(arc('b', 3, 0))), 9, true)
	// Nor does an arc that is no way on, or not the first one.
	greatestIs(t, made(5, final(1), state(arc('b', 3, 0), arc('b', 8, 0))), 9, true)
	greatestIs(t, made(5, final(1), state(arc('a', 8, 1), arc('b', 3, 0), arc('c', 8, -1))), 9, true)
	// The greatest one is the first word, the last one, the shortest, the longest, one in between.
	greatestIs(t, built(t, of("a", 9), of("b", 3), of("c", 4)), 10, true)
	greatestIs(t, built(t, of("a", 3), of("b", 4), of("c", 9)), 10, true)
	greatestIs(t, built(t, of("a", 3), of("b", 9), of("c", 4)), 10, true)
	greatestIs(t, built(t, of("a", 9), of("aa", 3), of("aaa", 4)), 10, true)
	greatestIs(t, built(t, of("a", 3), of("aa", 4), of("aaa", 9)), 10, true)
	greatestIs(t, built(t, of("a", 3), of("aa", 9), of("aaa", 4)), 10, true)
	greatestIs(t, built(t, gone("a"), gone("b")), 0, true)
	greatestIs(t, built(t, gone("a"), of("b", 0)), 1, true)
	greatestIs(t, built(t, of("a", math.MaxUint32)), greatest, true)
	// It is of many small outs, not of a great one.
	greatestIs(t, made(0, final(0), state(arc('a', 4, 0)), state(arc('a', 4, 1)), state(arc('a', 4, 2), arc('b', 9, 0))), 12, true)
}

// P14.2, P14.3: some value is none of an entry: Greatest and All are false, and From leaves it out.
func TestSomeValueIsNoEntrys(t *testing.T) {
	for _, value := range tooGreat() {
		for _, x := range []struct {
			f api.Fst
			l []api.Entry
		}{
			{made(0, final(0), state(arc('a', value, 0), arc('b', 1, 0), arc('c', 2, 0))), []api.Entry{of("b", 0), of("c", 1)}},
			{made(0, final(0), state(arc('a', 1, 0), arc('b', value, 0), arc('c', 2, 0))), []api.Entry{of("a", 0), of("c", 1)}},
			{made(0, final(0), state(arc('a', 1, 0), arc('b', 2, 0), arc('c', value, 0))), []api.Entry{of("a", 0), of("b", 1)}},
			{made(0, final(0), final(value, arc('a', 1, 0))), []api.Entry{of("a", 0)}},
			{made(0, final(0), final(5, arc('a', value, 0))), []api.Entry{of("", 4)}},
			{made(0, final(3), final(value, arc('b', 0, 0)), final(5, arc('a', 1, 1))), []api.Entry{of("", 4), of("ab", 3)}},
			{made(0, final(value), final(3, arc('b', 0, 0)), final(5, arc('a', 1, 1))), []api.Entry{of("", 4), of("a", 3)}},
			{made(0, final(1), final(3, arc('b', value, 0), arc('c', 0, 0)), final(5, arc('a', 1, 1))), []api.Entry{of("", 4), of("a", 3), of("ac", 1)}},
			{made(value, final(0), final(0, arc('a', 1, 0))), nil},
		} {
			greatestIs(t, x.f, 0, false)
			noAll(t, x.f)
			for n := range len(x.l) + 2 {
				fromIs(t, x.f, "", n, x.l[:min(n, len(x.l))]...)
			}
			for i, e := range x.l {
				fromIs(t, x.f, e.Word, 9, x.l[i:]...)
				fromIs(t, x.f, e.Word+"\x00", 9, x.l[i+1:]...)
			}
			asSaid(t, x.f)
		}
	}
}

// P14.3: From of all kinds of places, and numbers.
func TestFrom(t *testing.T) {
	l := []api.Entry{of("b", 1), of("bb", 2), gone("bbb"), of("bd", 4), of("d", 5), of("dab", 6), of("fff", 7)}
	f := built(t, l...)
	for _, x := range []struct {
		w  string
		at int
	}{
		{"", 0}, {"\x00", 0}, {"a", 0}, {"azz", 0}, {"b", 0},
		{"b\x00", 1}, {"ba", 1}, {"bazz", 1}, {"bb", 1}, {"bb\x00", 2}, {"bba", 2}, {"bbb", 2}, {"bbb\x00", 3}, {"bbbb", 3}, {"bbc", 3}, {"bc", 3}, {"bcc", 3}, {"bd", 3},
		{"bda", 4}, {"be", 4}, {"c", 4}, {"czzzzzz", 4}, {"d", 4}, {"d\x00", 5}, {"da", 5}, {"daa", 5}, {"dab", 5}, {"dab\x00", 6}, {"dac", 6}, {"db", 6}, {"e", 6}, {"f", 6}, {"ff", 6}, {"fff", 6},
		{"fff\x00", 7}, {"ffff", 7}, {"fffffffff", 7}, {"ffg", 7}, {"fg", 7}, {"g", 7}, {"\xff", 7}, {strings.Repeat("\xff", 300), 7},
		// Longer than all words, but not behind all.
		{"aaaaaaaaaa", 0}, {"bbbbbbbbbb", 3}, {strings.Repeat("b", 300), 3}, {"daaaaaaaaaa", 5}, {strings.Repeat("f", 2), 6}, {strings.Repeat("c", 100000), 4},
	} {
		for _, n := range []int{math.MinInt, -2, -1, 0, 1, 2, 3, 6, 7, 8, 100000, math.MaxInt} {
			want := l[x.at:]
			want = want[:max(0, min(n, len(want)))]
			fromIs(t, f, x.w, n, want...)
		}
	}
}

// P14.3: All of what has no words is none, and true, whatever the outs are; else it is false where Count or Greatest is.
func TestAll(t *testing.T) {
	allIs(t, made(math.MaxUint64, state()))
	allIs(t, made(math.MaxUint64, state(), state(arc('a', math.MaxUint64, 0))))
	allIs(t, made(0, final(0), state()))
	allIs(t, made(0, final(math.MaxUint64), state(arc('a', 0, 1))))
	allIs(t, made(0, final(0)), gone(""))
	noAll(t, made(greatest+1, final(0)))
	noAll(t, made(1, final(math.MaxUint64)))
	allIs(t, made(0, final(0), state(arc('a', greatest, 0))), of("a", math.MaxUint32))
	noAll(t, made(0, final(0), state(arc('a', greatest+1, 0))))
	noAll(t, made(0, final(0), state(arc('a', 1, 0), arc('b', greatest+1, 0))))
	// Too many words, of values that are an entry's; and both.
	f := chain(6, digits)
	greatestIs(t, f, 0, true)
	noAll(t, f)
	f.Init = greatest + 1
	greatestIs(t, f, 0, false)
	noAll(t, f)
}

// P14.1, P14.3: what is answered is the caller's: to change it changes nothing of the transducer, nor of other answers.
func TestAnswersAreTheCallers(t *testing.T) {
	f := built(t, of("ax", 1), of("ay", 5), of("bx", 1), gone("c"))
	was := copied(f)
	l, more := fst.From(f, "", 9), fst.From(f, "", 9)
	all, _ := fst.All(f)
	root := len(f.States) - 1
	bytes, others := fst.Bytes(f, root), fst.Bytes(f, root)
	for i := range l {
		l[i] = of("zzz", 9)
		all[i] = of("yyy", 8)
	}
	for i := range bytes {
		bytes[i] = '!'
	}
	if !same(f, was) {
		t.Errorf("it became %s", told(f))
	}
	if !slices.Equal(more, []api.Entry{of("ax", 1), of("ay", 5), of("bx", 1), gone("c")}) || string(others) != "abc" {
		t.Errorf("other answers became %s, %q", toldList(more), others)
	}
	asSaid(t, f)
	// What was answered stays as it is, if the transducer is changed.
	for at := range f.States {
		f.States[at].Final, f.States[at].Out = false, 99
		for i := range f.States[at].Arcs {
			f.States[at].Arcs[i] = arc('!', 77, -1)
		}
	}
	if !slices.Equal(more, []api.Entry{of("ax", 1), of("ay", 5), of("bx", 1), gone("c")}) || string(others) != "abc" {
		t.Errorf("with the transducer answers became %s, %q", toldList(more), others)
	}
	countIs(t, f, 0, true)
}
