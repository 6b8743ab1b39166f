package fst_test

import (
	"math"
	"math/big"
	"slices"
	"testing"
	"time"

	"cedilla/api"
	"cedilla/dawg"
	"cedilla/fst"
)

// soon finds out whether a call ends in a time that is long for it, but short for ways without number.
func soon(t *testing.T, what string, do func()) {
	t.Helper()
	done := make(chan struct{})
	go func() {
		defer close(done)
		do()
	}()
	select {
	case <-done:
	case <-time.After(30 * time.Second):
		t.Fatalf("%s does not end", what)
	}
}

// valueIs finds out whether Value and Get answer that w has this value.
func valueIs(t *testing.T, f api.Fst, w string, want uint64) {
	t.Helper()
	if value, is := fst.Value(f, w); value != want || !is {
		t.Fatalf("%s: Value of %s is %d, %t, not %d", told(f), short(w), value, is, want)
	}
	if e, is := fst.Get(f, w); e != valued(w, want) || !is {
		t.Fatalf("%s: Get of %s is %v, %t, not of %d", told(f), short(w), e, is, want)
	}
}

// hasNone finds out whether Value and Get answer that there is nothing of w.
func hasNone(t *testing.T, f api.Fst, w string) {
	t.Helper()
	if value, is := fst.Value(f, w); value != 0 || is {
		t.Fatalf("%s: Value of %s is %d, %t, not none", told(f), short(w), value, is)
	}
	if e, is := fst.Get(f, w); e != (api.Entry{}) || is {
		t.Fatalf("%s: Get of %s is %v, %t, not none", told(f), short(w), e, is)
	}
}

// stepIs finds out whether Step answers this way on.
func stepIs(t *testing.T, f api.Fst, at int, b byte, to int, out uint64) {
	t.Helper()
	if n, o, is := fst.Step(f, at, b); n != to || o != out || !is {
		t.Fatalf("%s: Step from %d by %q is %d, %d, %t, not %d, %d", told(f), at, b, n, o, is, to, out)
	}
}

// noStep finds out whether Step answers that there is no way on.
func noStep(t *testing.T, f api.Fst, at int, b byte) {
	t.Helper()
	if n, o, is := fst.Step(f, at, b); n != 0 || o != 0 || is {
		t.Fatalf("%s: Step from %d by %q is %d, %d, %t, not none", told(f), at, b, n, o, is)
	}
}

// bytesAre finds out whether Bytes answers these.
func bytesAre(t *testing.T, f api.Fst, at int, want string) {
	t.Helper()
	if l := fst.Bytes(f, at); string(l) != want {
		t.Fatalf("%s: Bytes of %d is %q, not %q", told(f), at, l, want)
	}
}

// countIs finds out whether Count answers this.
func countIs(t *testing.T, f api.Fst, want int, is bool) {
	t.Helper()
	if n, few := fst.Count(f); n != want || few != is {
		t.Fatalf("%s: Count is %d, %t, not %d, %t", told(f), n, few, want, is)
	}
}

// longestIs finds out whether Longest answers this.
func longestIs(t *testing.T, f api.Fst, want int) {
	t.Helper()
	if n := fst.Longest(f); n != want {
		t.Fatalf("%s: Longest is %d, not %d", told(f), n, want)
	}
}

// greatestIs finds out whether Greatest answers this.
func greatestIs(t *testing.T, f api.Fst, want uint64, is bool) {
	t.Helper()
	if n, fit := fst.Greatest(f); n != want || fit != is {
		t.Fatalf("%s: Greatest is %d, %t, not %d, %t", told(f), n, fit, want, is)
	}
}

// fromIs finds out whether From answers these.
func fromIs(t *testing.T, f api.Fst, w string, n int, want ...api.Entry) {
	t.Helper()
	if l := fst.From(f, w, n); !slices.Equal(l, want) {
		t.Fatalf("%s: From %s, %d is %s, not %s", told(f), short(w), n, toldList(l), toldList(want))
	}
}

// allIs finds out whether All answers these, and true.
func allIs(t *testing.T, f api.Fst, want ...api.Entry) {
	t.Helper()
	if l, is := fst.All(f); !slices.Equal(l, want) || !is {
		t.Fatalf("%s: All is %s, %t, not %s", told(f), toldList(l), is, toldList(want))
	}
}

// noAll finds out whether All answers none, and false.
func noAll(t *testing.T, f api.Fst) {
	t.Helper()
	if l, is := fst.All(f); len(l) != 0 || is {
		t.Fatalf("%s: All is %s, %t, not none, false", told(f), toldList(l), is)
	}
}

// asSaid finds out whether all calls answer what the chapter's words say of a transducer that has few words, and leave it as it was.
func asSaid(t *testing.T, f api.Fst) {
	t.Helper()
	was := copied(f)
	words := wordsOf(f)
	statesAre(t, f)
	wordsAre(t, f, words)
	entries := entriesOf(words)
	numbersAre(t, f, words, len(entries) == len(words))
	for _, w := range places(words) {
		for _, n := range []int{math.MinInt, -1, 0, 1, 2, len(entries) - 1, len(entries), len(entries) + 1, math.MaxInt} {
			fromIs(t, f, w, n, fromOf(entries, w, n)...)
		}
	}
	if !same(f, was) {
		t.Fatalf("%s became %s", told(was), told(f))
	}
}

// statesAre finds out whether Step and Bytes are as the words say, of all states, and beside them.
func statesAre(t *testing.T, f api.Fst) {
	t.Helper()
	for at := -2; at < len(f.States)+2; at++ {
		l := bytesOf(f, at)
		bytesAre(t, f, at, string(l))
		bytes := []byte{0, 1, 'a', 'b', 'c', 255}
		if at >= 0 && at < len(f.States) {
			for _, a := range f.States[at].Arcs {
				bytes = append(bytes, a.Byte)
			}
		}
		for _, b := range bytes {
			if a, is := wayOf(f, at, b); is {
				stepIs(t, f, at, b, a.To, a.Out)
			} else {
				noStep(t, f, at, b)
			}
		}
	}
}

// wordsAre finds out whether of these words, and of no others that are near them, there is what the words say.
func wordsAre(t *testing.T, f api.Fst, words []sure) {
	t.Helper()
	had := map[string]*big.Int{}
	for _, x := range words {
		had[x.word] = x.value
	}
	for _, w := range places(words) {
		if value, is := had[w]; is && isEntrys(value) {
			valueIs(t, f, w, value.Uint64())
		} else {
			hasNone(t, f, w)
		}
	}
}

// numbersAre finds out whether Count, Longest, Greatest and All are as the words say.
func numbersAre(t *testing.T, f api.Fst, words []sure, fit bool) {
	t.Helper()
	countIs(t, f, len(words), true)
	longest, most := -1, new(big.Int)
	for _, x := range words {
		longest = max(longest, len(x.word))
		if x.value.Cmp(most) > 0 {
			most = x.value
		}
	}
	longestIs(t, f, longest)
	switch {
	case len(words) == 0:
		greatestIs(t, f, 0, false)
		allIs(t, f)
	case fit:
		greatestIs(t, f, most.Uint64(), true)
		allIs(t, f, entriesOf(words)...)
	default:
		greatestIs(t, f, 0, false)
		noAll(t, f)
	}
}

// places is the words, and what stands close ahead of them, close behind them, and at both ends.
func places(words []sure) []string {
	l := []string{"", "\x00", "a", "aa", "ab", "b", "ba", "c", "\xff", "\xff\xff"}
	for _, x := range words {
		l = append(l, x.word, x.word+"\x00", x.word+"a", x.word+"\xff")
		if n := len(x.word) - 1; n >= 0 {
			b := x.word[n]
			l = append(l, x.word[:n], x.word[:n]+string([]byte{b + 1}), x.word[:n]+string([]byte{b - 1}), x.word[:n]+string([]byte{b - 1})+"\xff")
		}
	}
	slices.Sort(l)
	return slices.Compact(l)
}

// built is the transducer of a list.
func built(t *testing.T, l ...api.Entry) api.Fst {
	t.Helper()
	f, why := dawg.Build(l)
	if why != api.OK {
		t.Fatalf("Build(%s) answers %d", toldList(l), why)
	}
	return f
}

// P14.1 to P14.3: the examples of the chapter, and the transducer that the document names.
func TestExamples(t *testing.T) {
	f := built(t, of("an", 2), api.Entry{Word: "ant", Weight: 5, Gone: true}, of("bee", 7))
	valueIs(t, f, "an", 3)
	valueIs(t, f, "ant", 0)
	valueIs(t, f, "bee", 8)
	hasNone(t, f, "be")
	countIs(t, f, 3, true)
	longestIs(t, f, 3)
	greatestIs(t, f, 8, true)
	fromIs(t, f, "ann", 1, gone("ant"))
	fromIs(t, f, "b", 9, of("bee", 7))
	fromIs(t, f, "c", 9)
	root := len(f.States) - 1
	bytesAre(t, f, root, "ab")
	if _, out, is := fst.Step(f, root, 'a'); out != 0 || !is {
		t.Errorf("Step of the root by a is %d, %t", out, is)
	}
	asSaid(t, f)
	f = made(1, final(0), state(arc('a', 0, 0), arc('b', 2, 0)))
	valueIs(t, f, "a", 1)
	valueIs(t, f, "b", 3)
	allIs(t, f, of("a", 0), of("b", 2))
	asSaid(t, f)
}

// P14.1 to P14.3, P1: a transducer without states.
func TestNoStates(t *testing.T) {
	for _, init := range append(values(), tooGreat()...) {
		for _, f := range []api.Fst{{Init: init}, {States: []api.State{}, Init: init}} {
			asSaid(t, f)
			hasNone(t, f, "")
			hasNone(t, f, "a")
			for _, at := range append(nowhere(0), 1) {
				noStep(t, f, at, 'a')
				bytesAre(t, f, at, "")
			}
			countIs(t, f, 0, true)
			longestIs(t, f, -1)
			greatestIs(t, f, 0, false)
			fromIs(t, f, "", 9)
			allIs(t, f)
		}
	}
}

// P14.1 to P14.3, P1: a transducer with one state: one that is not Final has no words, one that is has that of no bytes.
func TestOneState(t *testing.T) {
	some := append(values(), tooGreat()...)
	for _, init := range some {
		for _, out := range some {
			f := made(init, api.State{Out: out})
			asSaid(t, f)
			hasNone(t, f, "")
			countIs(t, f, 0, true)
			longestIs(t, f, -1)
			greatestIs(t, f, 0, false)
			fromIs(t, f, "", 9)
			allIs(t, f)
			f = made(init, final(out))
			asSaid(t, f)
			countIs(t, f, 1, true)
			longestIs(t, f, 0)
			fromIs(t, f, "\x00", 9)
			hasNone(t, f, "\x00")
		}
	}
	f := made(2, final(3))
	valueIs(t, f, "", 5)
	greatestIs(t, f, 5, true)
	fromIs(t, f, "", 9, of("", 4))
	allIs(t, f, of("", 4))
	f = made(0, final(0))
	valueIs(t, f, "", 0)
	greatestIs(t, f, 0, true)
	allIs(t, f, gone(""))
}

// P14.1 to P14.3: the word of no bytes, beside others.
func TestNoBytes(t *testing.T) {
	f := made(1, final(4), final(2, arc('a', 0, 0)))
	valueIs(t, f, "", 3)
	valueIs(t, f, "a", 5)
	countIs(t, f, 2, true)
	fromIs(t, f, "", 1, of("", 2))
	fromIs(t, f, "", 2, of("", 2), of("a", 4))
	fromIs(t, f, "\x00", 2, of("a", 4))
	allIs(t, f, of("", 2), of("a", 4))
	asSaid(t, f)
	// Of a root that is not Final it is no word, whatever its Out is.
	f.States[1].Final = false
	hasNone(t, f, "")
	countIs(t, f, 1, true)
	fromIs(t, f, "", 1, of("a", 4))
	asSaid(t, f)
}

// P14.1 to P14.3: the Out of a state that is not Final does not count.
func TestOutsThatDoNotCount(t *testing.T) {
	for _, out := range append(values(), tooGreat()...) {
		f := made(0, final(1), api.State{Out: out, Arcs: []api.Arc{arc('b', 2, 0)}}, api.State{Out: out, Arcs: []api.Arc{arc('a', 4, 1)}})
		valueIs(t, f, "ab", 7)
		hasNone(t, f, "a")
		greatestIs(t, f, 7, true)
		allIs(t, f, of("ab", 6))
		asSaid(t, f)
	}
}

// P14.1 to P14.3, P1: arcs that go to their own state, to a later one, to one that is not there, or below 0, are as if they were not there.
func TestArcsThatGoNowhere(t *testing.T) {
	for _, out := range []uint64{0, 1, math.MaxUint64} {
		for _, to := range nowhere(0) {
			asSaid(t, made(0, final(0, arc('a', out, to))))
			asSaid(t, made(0, state(arc('a', out, to))))
			asSaid(t, made(0, final(0, arc('a', out, to)), state(arc('a', 0, 0))))
		}
		for _, to := range nowhere(1) {
			f := made(3, final(0), state(arc('a', out, to), arc('b', 1, 0)))
			noStep(t, f, 1, 'a')
			stepIs(t, f, 1, 'b', 0, 1)
			bytesAre(t, f, 1, "b")
			hasNone(t, f, "a")
			allIs(t, f, of("b", 3))
			asSaid(t, f)
			f = made(3, final(0), state(arc('b', 1, 0), arc('c', out, to)))
			bytesAre(t, f, 1, "b")
			allIs(t, f, of("b", 3))
			asSaid(t, f)
			asSaid(t, made(3, final(0), final(2, arc('a', out, to), arc('b', 1, 0)), final(1, arc('x', 0, 1))))
		}
		for _, to := range nowhere(2) {
			f := made(0, final(0), final(2, arc('b', 1, 0)), final(1, arc('x', out, to)))
			countIs(t, f, 1, true)
			longestIs(t, f, 0)
			allIs(t, f, of("", 0))
			asSaid(t, f)
		}
	}
	// They go round.
	asSaid(t, made(0, final(0), state(arc('a', 0, 2)), final(0, arc('a', 0, 1))))
	asSaid(t, made(0, state(arc('a', 0, 1)), final(0, arc('a', 0, 0), arc('b', 0, 1))))
}

// P14.1 to P14.3: of several ways on with one byte the first one counts.
func TestSeveralWithOneByte(t *testing.T) {
	f := made(0, final(0), final(9), state(arc('a', 5, 1), arc('a', 7, 0)))
	stepIs(t, f, 2, 'a', 1, 5)
	bytesAre(t, f, 2, "a")
	valueIs(t, f, "a", 14)
	countIs(t, f, 1, true)
	greatestIs(t, f, 14, true)
	allIs(t, f, of("a", 13))
	asSaid(t, f)
	f = made(0, final(0), final(9), state(arc('a', 7, 0), arc('a', 5, 1)))
	stepIs(t, f, 2, 'a', 0, 7)
	allIs(t, f, of("a", 6))
	asSaid(t, f)
	// Not side by side.
	f = made(0, final(0), final(9), state(arc('a', 7, 0), arc('b', 1, 0), arc('a', 5, 1), arc('b', 5, 1)))
	bytesAre(t, f, 2, "ab")
	allIs(t, f, of("a", 6), of("b", 0))
	asSaid(t, f)
	f = made(0, final(0), final(9), state(arc('b', 7, 0), arc('a', 1, 0), arc('b', 5, 1), arc('a', 5, 1), arc('b', 0, 0)))
	allIs(t, f, of("a", 0), of("b", 6))
	asSaid(t, f)
	// The first one counts also if it leads to nothing, or to another number of words.
	f = made(0, final(0), state(), state(arc('a', 0, 1), arc('a', 0, 0)))
	stepIs(t, f, 2, 'a', 1, 0)
	hasNone(t, f, "a")
	countIs(t, f, 0, true)
	asSaid(t, f)
	f = made(0, final(0), final(0, arc('b', 0, 0)), state(arc('a', 0, 0), arc('a', 0, 1)))
	countIs(t, f, 1, true)
	longestIs(t, f, 1)
	hasNone(t, f, "ab")
	asSaid(t, f)
	asSaid(t, made(0, final(0), final(0, arc('b', 0, 0)), state(arc('a', 0, 1), arc('a', 0, 0))))
	// Also if its value is none of an entry.
	f = made(0, final(0), state(arc('a', greatest+1, 0), arc('a', 0, 0)))
	stepIs(t, f, 1, 'a', 0, greatest+1)
	hasNone(t, f, "a")
	countIs(t, f, 1, true)
	greatestIs(t, f, 0, false)
	asSaid(t, f)
}

// P14.1 to P14.3: where the first arc with a byte is no way on, it is as if it was not there, and the next one is the first.
func TestSeveralOfWhichTheFirstIsNoWay(t *testing.T) {
	for _, to := range nowhere(2) {
		f := made(0, final(0), final(9), state(arc('a', 3, to), arc('a', 5, 1), arc('a', 7, 0)))
		stepIs(t, f, 2, 'a', 1, 5)
		bytesAre(t, f, 2, "a")
		valueIs(t, f, "a", 14)
		countIs(t, f, 1, true)
		longestIs(t, f, 1)
		greatestIs(t, f, 14, true)
		fromIs(t, f, "a", 9, of("a", 13))
		allIs(t, f, of("a", 13))
		asSaid(t, f)
		asSaid(t, made(0, final(0), final(9), state(arc('a', 3, to), arc('b', 3, 0), arc('a', 7, 0), arc('b', 0, to))))
		// The last one is none either.
		f = made(0, final(0), final(9), state(arc('a', 7, 0), arc('a', 3, to)))
		stepIs(t, f, 2, 'a', 0, 7)
		allIs(t, f, of("a", 6))
		asSaid(t, f)
		f = made(0, final(0), final(9), state(arc('a', 3, to), arc('a', 4, to)))
		noStep(t, f, 2, 'a')
		bytesAre(t, f, 2, "")
		asSaid(t, f)
	}
}

// P14.1 to P14.3: arcs whose bytes do not rise are told by rising bytes.
func TestBytesThatDoNotRise(t *testing.T) {
	f := made(0, final(0), state(arc('c', 3, 0), arc('a', 1, 0), arc('b', 2, 0)))
	bytesAre(t, f, 1, "abc")
	stepIs(t, f, 1, 'a', 0, 1)
	stepIs(t, f, 1, 'c', 0, 3)
	allIs(t, f, of("a", 0), of("b", 1), of("c", 2))
	fromIs(t, f, "b", 1, of("b", 1))
	fromIs(t, f, "b", 2, of("b", 1), of("c", 2))
	asSaid(t, f)
	// By their numbers, not as if they were less than 0.
	f = made(0, final(0), state(arc(255, 3, 0), arc(128, 4, 0), arc(127, 1, 0), arc(0, 2, 0)))
	bytesAre(t, f, 1, "\x00\x7f\x80\xff")
	allIs(t, f, of("\x00", 1), of("\x7f", 0), of("\x80", 3), of("\xff", 2))
	asSaid(t, f)
	var arcs []api.Arc
	for i := range 256 {
		arcs = append(arcs, arc(byte(i*77), uint64(i), 0))
	}
	f = made(0, final(0), state(arcs...))
	if l := fst.Bytes(f, 1); len(l) != 256 || !slices.IsSorted(l) {
		t.Errorf("Bytes is %q", l)
	}
	asSaid(t, f)
	// A thousand arcs, of which the first ones with three bytes count.
	arcs = nil
	for i := range 1000 {
		arcs = append(arcs, arc("zxy"[i%3], uint64(i), 0))
	}
	f = made(0, final(0), state(arcs...))
	bytesAre(t, f, 1, "xyz")
	allIs(t, f, of("x", 0), of("y", 1), gone("z"))
	asSaid(t, f)
}

// P14.1, P1: Step and Bytes of a number that is no state.
func TestNumbersThatAreNoStates(t *testing.T) {
	f := made(0, final(0), state(arc('a', 1, 0)), state(arc('a', 2, 1), arc('b', 3, 0)))
	for _, at := range append(nowhere(3), math.MaxInt-1) {
		bytesAre(t, f, at, "")
		for b := range 256 {
			noStep(t, f, at, byte(b))
		}
	}
	bytesAre(t, f, 0, "")
	bytesAre(t, f, 1, "a")
	bytesAre(t, f, 2, "ab")
	stepIs(t, f, 2, 'b', 0, 3)
	// Behind their end there are states, but they are not the transducer's.
	part := api.Fst{States: f.States[:2]}
	bytesAre(t, part, 2, "")
	noStep(t, part, 2, 'a')
	allIs(t, part, of("a", 0))
	asSaid(t, part)
}

// P14.1 to P14.3: values just at 2^32, and above it, whatever they are put together of.
func TestGreatValues(t *testing.T) {
	for _, x := range []struct {
		value                uint64
		init, one, two, last uint64
	}{
		{greatest, greatest, 0, 0, 0}, {greatest, 0, greatest, 0, 0}, {greatest, 0, 0, greatest, 0}, {greatest, 0, 0, 0, greatest},
		{greatest, 1, 1, 1, greatest - 3}, {greatest, greatest - 1, 0, 1, 0}, {greatest, 1 << 30, 1 << 30, 1 << 30, 1 << 30},
		{greatest - 1, greatest - 1, 0, 0, 0}, {greatest - 1, 0, 0, greatest - 2, 1}, {1<<31 + 1, 1, 0, 0, 1 << 31},
	} {
		f := made(x.init, final(x.last), state(arc('b', x.two, 0)), state(arc('a', x.one, 1)))
		valueIs(t, f, "ab", x.value)
		greatestIs(t, f, x.value, true)
		allIs(t, f, of("ab", uint32(x.value-1)))
		asSaid(t, f)
	}
	for _, x := range []struct{ init, one, two, last uint64 }{
		{greatest + 1, 0, 0, 0}, {0, greatest + 1, 0, 0}, {0, 0, greatest + 1, 0}, {0, 0, 0, greatest + 1},
		{greatest, 1, 0, 0}, {greatest, 0, 1, 0}, {greatest, 0, 0, 1}, {1, 0, 0, greatest}, {1 << 31, 1 << 31, 1, 0}, {2 * greatest, 0, 0, 0},
		// These don't fit into 64 bits; cut off they would be 0, 1, or 2^32.
		{math.MaxUint64, 1, 0, 0}, {math.MaxUint64, 0, 1, 0}, {math.MaxUint64, 0, 0, 1}, {1, math.MaxUint64, 0, 0}, {0, math.MaxUint64, 1, 0}, {0, math.MaxUint64, 0, 1},
		{1, 0, math.MaxUint64, 0}, {0, 1, math.MaxUint64, 0}, {0, 0, math.MaxUint64, 1}, {1, 0, 0, math.MaxUint64}, {0, 1, 0, math.MaxUint64}, {0, 0, 1, math.MaxUint64},
		{1 << 63, 1 << 63, 0, 0}, {1 << 63, 0, 1 << 63, 1}, {1 << 62, 1 << 62, 1 << 62, 1 << 62}, {1 << 63, 1 << 63, 1 << 63, 1 << 63},
		{math.MaxUint64, math.MaxUint64, 2, 0}, {math.MaxUint64, math.MaxUint64, math.MaxUint64, 3}, {math.MaxUint64, greatest + 1, 0, 0}, {0, 0, math.MaxUint64, greatest + 1},
		// And these just fit.
		{math.MaxUint64, 0, 0, 0}, {0, 0, 0, math.MaxUint64}, {1 << 63, 1<<63 - 1, 0, 0}, {math.MaxUint64 - 1, 1, 0, 0},
	} {
		f := made(x.init, final(x.last), state(arc('b', x.two, 0)), state(arc('a', x.one, 1)))
		hasNone(t, f, "ab")
		countIs(t, f, 1, true)
		longestIs(t, f, 2)
		greatestIs(t, f, 0, false)
		fromIs(t, f, "", 9)
		noAll(t, f)
		asSaid(t, f)
	}
}

// P14.1: long words: each way comes to its end, and what is behind that is none.
func TestLongWords(t *testing.T) {
	for _, size := range []int{254, 255, 256, 257, 1000} {
		states := []api.State{final(1)}
		w := ""
		for i := range size {
			b := byte(i * 7)
			states = append(states, state(arc(b, 1, i)))
			w = string([]byte{b}) + w
		}
		f := made(0, states...)
		value := uint64(size) + 1
		valueIs(t, f, w, value)
		hasNone(t, f, w[:size-1])
		hasNone(t, f, w[1:])
		hasNone(t, f, w+"x")
		hasNone(t, f, w+w)
		countIs(t, f, 1, true)
		longestIs(t, f, size)
		greatestIs(t, f, value, true)
		allIs(t, f, valued(w, value))
		fromIs(t, f, w, 9, valued(w, value))
		fromIs(t, f, w[:size-1], 9, valued(w, value))
		fromIs(t, f, w+"\x00", 9)
	}
}
