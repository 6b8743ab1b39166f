package dawg_test

import (
	"math"
	"slices"
	"strconv"
	"strings"
	"testing"

	"cedilla/api"
	"cedilla/dawg"
)

// built finds out whether Build makes of a list what the words say, and is what it makes.
func built(t *testing.T, l []api.Entry) api.Fst {
	t.Helper()
	was := slices.Clone(l)
	f, why := dawg.Build(l)
	if why != api.OK {
		t.Fatalf("Build(%s) answers %d", toldList(l), why)
	}
	if !slices.Equal(l, was) {
		t.Fatalf("Build(%s) changed it to %s", toldList(was), toldList(l))
	}
	values := valuesOf(l)
	if want := buildByWords(values); !same(f, want) {
		t.Fatalf("Build(%s) is %s, not %s", toldList(l), told(f), told(want))
	}
	hasWords(t, f, values)
	isRight(t, f)
	return f
}

// hasWords finds out whether a transducer has these words with their values, and no others.
func hasWords(t *testing.T, f api.Fst, values map[string]uint64) {
	t.Helper()
	for w, want := range values {
		if value, is := valueOf(f, w); value != want || !is {
			t.Fatalf("%s: the value of %s is %d, %t, not %d", told(f), short(w), value, is, want)
		}
	}
	had := wordsOf(f)
	for w := range had {
		if _, is := values[w]; !is {
			t.Fatalf("%s has %s, which is no word of the list", told(f), short(w))
		}
	}
	if len(had) != len(values) {
		t.Fatalf("%s has %d words, not %d", told(f), len(had), len(values))
	}
}

// isRight finds out whether a transducer is right, by Right and by the words.
func isRight(t *testing.T, f api.Fst) {
	t.Helper()
	if l := wrongs(f); len(l) > 0 {
		t.Fatalf("%s is not right: %q", told(f), l)
	}
	if !dawg.Right(f) {
		t.Fatalf("Right(%s) is false", told(f))
	}
}

// is finds out whether Build makes this transducer of a list.
func is(t *testing.T, want api.Fst, l ...api.Entry) {
	t.Helper()
	if f := built(t, l); !same(f, want) {
		t.Errorf("Build(%s) is %s, not %s", toldList(l), told(f), told(want))
	}
}

// sized finds out whether Size answers this.
func sized(t *testing.T, f api.Fst, states, arcs int) {
	t.Helper()
	if s, a := dawg.Size(f); s != states || a != arcs {
		t.Errorf("Size(%s) is %d, %d, not %d, %d", told(f), s, a, states, arcs)
	}
}

// P13.1, P13.2: the examples of the chapter, and that of the document.
func TestExamples(t *testing.T) {
	is(t, fst(0, state()))
	is(t, fst(5, final(0), state(arc('a', 0, 0))), of("a", 4))
	is(t, fst(1, final(0), state(arc('a', 0, 0), arc('b', 2, 0))), of("a", 0), of("b", 2))
	is(t, fst(0, final(0), final(1, arc('b', 0, 0)), state(arc('a', 0, 1))), of("a", 0), gone("ab"))
	sized(t, built(t, nil), 1, 0)
	sized(t, built(t, []api.Entry{of("a", 4)}), 2, 1)
	sized(t, built(t, []api.Entry{of("a", 0), of("b", 2)}), 2, 2)
	sized(t, built(t, []api.Entry{of("a", 0), gone("ab")}), 3, 2)
}

// P13.1: no entries, nil or not.
func TestBuildOfNothing(t *testing.T) {
	for _, l := range [][]api.Entry{nil, {}, make([]api.Entry, 0, 5)} {
		f := built(t, l)
		if len(f.States) != 1 || f.States[0].Final || len(f.States[0].Arcs) != 0 || f.States[0].Out != 0 || f.Init != 0 {
			t.Errorf("Build of nothing is %s", told(f))
		}
	}
}

// P13.1: one entry, of each size, and of each value: a chain, whose Init is the value.
func TestBuildOfOne(t *testing.T) {
	for size := 1; size <= 255; size++ {
		for _, value := range []uint64{0, 1, 9, greatest} {
			l := []api.Entry{valued(long(size), value)}
			f, why := dawg.Build(l)
			if why != api.OK || f.Init != value {
				t.Fatalf("Build(%s) is %s, %d", toldList(l), told(f), why)
			}
			sized(t, f, size+1, size)
			hasWords(t, f, valuesOf(l))
			isRight(t, f)
		}
	}
	for _, value := range someValues() {
		is(t, fst(value, final(0), state(arc('b', 0, 0)), state(arc('a', 0, 1))), valued("ab", value))
	}
	for b := range 256 {
		is(t, fst(3, final(0), state(arc(byte(b), 0, 0))), of(string([]byte{byte(b)}), 2))
	}
}

// P13.1: a word that is the beginning of another one, with each of some values.
func TestBuildOfBeginnings(t *testing.T) {
	is(t, fst(2, final(0), final(0, arc('b', 3, 0)), state(arc('a', 0, 1))), of("a", 1), of("ab", 4))
	is(t, fst(2, final(0), final(3, arc('b', 0, 0)), state(arc('a', 0, 1))), of("a", 4), of("ab", 1))
	is(t, fst(2, final(0), final(0, arc('b', 0, 0)), state(arc('a', 0, 1))), of("a", 1), of("ab", 1))
	is(t, fst(1, final(0), final(1, arc('a', 0, 0)), final(2, arc('a', 0, 1)), state(arc('a', 0, 2))), of("a", 2), of("aa", 1), of("aaa", 0))
	is(t, fst(1, final(0), final(0, arc('a', 1, 0)), final(0, arc('a', 1, 1)), state(arc('a', 0, 2))), of("a", 0), of("aa", 1), of("aaa", 2))
	for _, p := range pairs() {
		for _, x := range someValues() {
			for _, y := range someValues() {
				built(t, []api.Entry{valued(p[:1], x), valued(p, y)})
				built(t, []api.Entry{valued(p[:1], x), valued(p[:1]+p[:1], y), valued(p, x)})
				built(t, []api.Entry{valued(p[:1], x), valued(p, y), valued(p[1:], y)})
				built(t, []api.Entry{valued(p, y), valued(p+p, x), valued(p+p[1:], y)})
			}
		}
	}
	var all []api.Entry
	for size := 1; size <= 255; size++ {
		all = append(all, of(long(size), uint32(size*size%7)))
	}
	f, why := dawg.Build(all)
	if why != api.OK {
		t.Fatalf("Build of all beginnings answers %d", why)
	}
	hasWords(t, f, valuesOf(all))
	isRight(t, f)
}

// P13.1, P13.3: words with one end: their ends are the same states, whatever their values are.
func TestBuildOfEnds(t *testing.T) {
	f := built(t, []api.Entry{of("mop", 1), of("moth", 1), of("pop", 1), of("star", 1), of("stop", 1), of("top", 1)})
	if f.Init != 2 {
		t.Errorf("Init is %d", f.Init)
	}
	sized(t, f, 10, 14)
	is(t, fst(2, final(0), state(arc('z', 0, 0)), state(arc('y', 0, 1)), state(arc('a', 2, 2), arc('b', 0, 2), arc('c', 7, 2))),
		of("ayz", 3), of("byz", 1), of("cyz", 8))
	// The last byte of the first word is another one; what lies ahead of it is not shared.
	is(t, fst(1, final(0), state(arc('y', 0, 0)), state(arc('z', 0, 0)), state(arc('a', 0, 1), arc('b', 0, 2))), of("ay", 0), of("bz", 0))
	// Of these, the values differ behind the beginning by the same, or not.
	is(t, fst(1, final(0), state(arc('x', 0, 0), arc('y', 3, 0)), state(arc('a', 0, 1), arc('b', 4, 1))), of("ax", 0), of("ay", 3), of("bx", 4), of("by", 7))
	is(t, fst(1, final(0), state(arc('x', 0, 0), arc('y', 3, 0)), state(arc('x', 0, 0), arc('y', 4, 0)), state(arc('a', 0, 1), arc('b', 4, 2))),
		of("ax", 0), of("ay", 3), of("bx", 4), of("by", 8))
	// One that is Final, and one that is not, are two states, though their arcs are alike.
	is(t, fst(1, final(0), final(0, arc('x', 0, 0)), state(arc('x', 0, 0)), state(arc('a', 0, 1), arc('b', 0, 2))), of("a", 0), of("ax", 0), of("bx", 0))
	// Words with one beginning and one end of 127 bytes each.
	begin, end := strings.Repeat("b", 127), strings.Repeat("e", 127)
	l := []api.Entry{of(begin+"x"+end, 5), of(begin+"y"+end, 2), of(begin+"z"+end, 9)}
	sized(t, built(t, l), 256, 257)
}

// P13.1: entries that are gone have the value 0, whatever their weights are.
func TestBuildOfGone(t *testing.T) {
	is(t, fst(0, final(0), state(arc('a', 0, 0))), gone("a"))
	is(t, fst(0, final(0), state(arc('a', 0, 0))), heavy("a", 7))
	is(t, fst(0, final(0), state(arc('a', 0, 0), arc('b', 1, 0))), heavy("a", math.MaxUint32), of("b", 0))
	is(t, fst(0, final(0), state(arc('a', 1, 0), arc('b', 0, 0))), of("a", 0), heavy("b", 5))
	is(t, fst(0, final(0), state(arc('a', 0, 0), arc('b', 0, 0))), gone("a"), heavy("b", 5))
	is(t, fst(0, final(0), final(0, arc('a', 2, 0)), state(arc('a', 0, 1))), heavy("a", 9), of("aa", 1))
}

// P13.1: the greatest values, beside the least ones.
func TestBuildOfGreatValues(t *testing.T) {
	most := uint32(math.MaxUint32)
	is(t, fst(greatest, final(0), state(arc('a', 0, 0))), of("a", most))
	is(t, fst(greatest, final(0), state(arc('a', 0, 0), arc('b', 0, 0))), of("a", most), of("b", most))
	is(t, fst(0, final(0), state(arc('a', 0, 0), arc('b', greatest, 0))), gone("a"), of("b", most))
	is(t, fst(0, final(0), state(arc('a', greatest, 0), arc('b', 0, 0))), of("a", most), gone("b"))
	is(t, fst(1, final(0), state(arc('a', greatest-1, 0), arc('b', 0, 0))), of("a", most), of("b", 0))
	is(t, fst(0, final(0), final(greatest, arc('b', 0, 0)), state(arc('a', 0, 1))), of("a", most), gone("ab"))
	is(t, fst(0, final(0), final(0, arc('b', greatest, 0)), state(arc('a', 0, 1))), gone("a"), of("ab", most))
	for _, x := range someValues() {
		for _, y := range someValues() {
			for _, z := range someValues() {
				built(t, []api.Entry{valued("a", x), valued("b", y), valued("bc", z)})
				built(t, []api.Entry{valued("ac", x), valued("bc", y), valued("c", z)})
			}
		}
	}
}

// P13.1: words with the bytes 0 and 255, and with each byte.
func TestBuildOfAllBytes(t *testing.T) {
	is(t, fst(1, final(0), state(arc(0, 0, 0), arc(255, 1, 0))), of("\x00", 0), of("\xff", 1))
	is(t, fst(1, final(0), state(arc(0x7f, 0, 0), arc(0x80, 1, 0))), of("\x7f", 0), of("\x80", 1))
	is(t, fst(1, final(0), final(0, arc(0, 1, 0)), state(arc(0, 0, 1), arc(255, 5, 0))), of("\x00", 0), of("\x00\x00", 1), of("\xff", 5))
	var one, two []api.Entry
	for i := range 256 {
		b := string([]byte{byte(i)})
		one = append(one, of(b, uint32(i)))
		two = append(two, of(b+"\x00", uint32(i)), of(b+"\xff", uint32(i+1)))
	}
	f := built(t, one)
	sized(t, f, 2, 256)
	for i, a := range f.States[1].Arcs {
		if a != arc(byte(i), uint64(i), 0) {
			t.Errorf("arc %d is %v", i, a)
		}
	}
	sized(t, built(t, two), 3, 258)
}

// P13.1: words of the greatest size, beside others.
func TestBuildOfLongWords(t *testing.T) {
	for _, l := range [][]api.Entry{
		{of(long(255), 3)},
		{of(long(254), 1), of(long(255), 3)},
		{of(long(254)+"v", 1), of(long(255), 3)},
		{of("v"+long(254), 1), of(long(255), 3)},
		{of(strings.Repeat("\x00", 255), 1), of(strings.Repeat("\xff", 255), 3)},
		{of("a", 7), of(long(255), 3), of("z", 0)},
	} {
		f := built(t, l)
		if states, _ := dawg.Size(f); states < 256 {
			t.Errorf("Build(%s) has %d states", toldList(l), states)
		}
	}
}

// P13.1, P1: of what is no list there is Check's error, and an empty transducer.
func TestBuildOfNoList(t *testing.T) {
	for _, x := range []struct {
		why api.Errno
		l   []api.Entry
	}{
		{api.ErrInvalid, []api.Entry{of("", 1)}},
		{api.ErrInvalid, []api.Entry{gone("")}},
		{api.ErrInvalid, []api.Entry{of(long(256), 1)}},
		{api.ErrInvalid, []api.Entry{of(long(100000), 1)}},
		{api.ErrInvalid, []api.Entry{of("a", 1), of("", 1)}},
		{api.ErrInvalid, []api.Entry{of("", 1), of("a", 1)}},
		{api.ErrInvalid, []api.Entry{of("a", 1), gone(long(256))}},
		{api.ErrOrder, []api.Entry{of("a", 1), of("a", 1)}},
		{api.ErrOrder, []api.Entry{of("a", 1), gone("a")}},
		{api.ErrOrder, []api.Entry{of("b", 1), of("a", 1)}},
		{api.ErrOrder, []api.Entry{of("ab", 1), of("a", 1)}},
		{api.ErrOrder, []api.Entry{of("\xff", 1), of("\x00", 1)}},
		{api.ErrOrder, []api.Entry{of("a", 1), of("c", 1), of("b", 1)}},
		{api.ErrOrder, []api.Entry{of(long(255), 1), of(long(255), 1)}},
		// The first place counts, and at one place ErrInvalid.
		{api.ErrOrder, []api.Entry{of("b", 1), of("a", 1), of("", 1)}},
		{api.ErrInvalid, []api.Entry{of("b", 1), of("", 1), of("a", 1)}},
		{api.ErrInvalid, []api.Entry{of("x", 1), of(long(256), 1), of("a", 1)}},
		{api.ErrOrder, []api.Entry{of("x", 1), of("a", 1), of(long(256), 1)}},
	} {
		f, why := dawg.Build(x.l)
		if why != x.why || why != checkByWords(x.l) || len(f.States) != 0 || f.Init != 0 {
			t.Errorf("Build(%s) is %s, %d, not an empty one, %d", toldList(x.l), told(f), why, x.why)
		}
	}
}

// P13.1: of all short rows of entries, lists or not, Build is what the words say.
func TestBuildOfShortRows(t *testing.T) {
	entries := []api.Entry{of("a", 0), of("b", 3), gone("a"), of("ab", 1), of("ba", 0), of("", 1), heavy("c", 4), of(long(256), 1)}
	rows := [][]api.Entry{nil}
	for from := 0; len(rows[from]) < 4; from++ {
		for _, e := range entries {
			rows = append(rows, append(slices.Clip(rows[from]), e))
		}
	}
	for _, l := range rows {
		if want := checkByWords(l); want != api.OK {
			if f, why := dawg.Build(l); why != want || len(f.States) != 0 || f.Init != 0 {
				t.Fatalf("Build(%s) is %s, %d, not an empty one, %d", toldList(l), told(f), why, want)
			}
			continue
		}
		built(t, l)
	}
}

// P13.1, P13.2: of many lists Build is what the words say, whatever begins and ends alike.
func TestBuildOfManyLists(t *testing.T) {
	n := numbers(1)
	for _, bytes := range append(pairs(), "a", "abc", "\x00\x01\xfe\xff") {
		for _, values := range [][]uint64{{5}, {0, 1}, {1, 2, 3}, {0, 7, greatest}, someValues()} {
			for _, size := range []int{1, 2, 3, 5, 9} {
				for range 12 {
					built(t, n.list(40, size, bytes, values))
				}
			}
		}
	}
}

// P13.1: what Build makes is the caller's: nothing in it is shared, and all can be changed.
func TestBuildIsTheCallers(t *testing.T) {
	l := []api.Entry{of("ax", 1), of("ay", 5), of("bx", 1), of("by", 5), of("c", 2), of("cxx", 2)}
	want := buildByWords(valuesOf(l))
	f := built(t, l)
	other := built(t, l)
	for i := range l {
		l[i] = of("zzz", 9)
	}
	if !same(f, want) {
		t.Fatalf("with the list it changed to %s", told(f))
	}
	for at := range f.States {
		s := &f.States[at]
		// Also what lies behind an arc list's end is nobody else's.
		full := s.Arcs[:cap(s.Arcs)]
		for i := range full {
			full[i] = arc('!', 99, 99)
		}
		s.Out, s.Final = 77, !s.Final
		for next := at + 1; next < len(f.States); next++ {
			if !sameState(f.States[next], want.States[next]) {
				t.Fatalf("with state %d the state %d changed", at, next)
			}
		}
	}
	if !same(other, want) {
		t.Errorf("with one answer another one changed to %s", told(other))
	}
	l = []api.Entry{of("ax", 1), of("ay", 5), of("bx", 1), of("by", 5), of("c", 2), of("cxx", 2)}
	if f := built(t, l); !same(f, want) {
		t.Errorf("the next answer is %s", told(f))
	}
	none := built(t, nil)
	none.States[0].Final = true
	if f := built(t, nil); f.States[0].Final {
		t.Errorf("the next answer of nothing is %s", told(f))
	}
}

// P13.1, P13.2: more entries than a segment may have; and each of them is found.
func TestBuildOfManyEntries(t *testing.T) {
	var l []api.Entry
	for i := range api.MaxEntries + 1 {
		// As many digits for each, so that they rise; ends are often alike.
		l = append(l, api.Entry{Word: strconv.Itoa(1000000 + i), Weight: uint32(i % 10), Gone: i%11 == 0})
	}
	f, why := dawg.Build(l)
	if why != api.OK || !dawg.Right(f) {
		t.Fatalf("Build answers %d, Right %t", why, dawg.Right(f))
	}
	hasWords(t, f, valuesOf(l))
	for i := range l {
		l[i] = of(l[i].Word, 4)
	}
	f, why = dawg.Build(l[:api.MaxEntries])
	// Seven digits, of which the first two are 1 and 0, and the others any ones.
	if states, arcs := dawg.Size(f); why != api.OK || states != 8 || arcs != 52 || f.Init != 5 || !dawg.Right(f) {
		t.Errorf("Build answers %d, Size %d, %d, Init is %d, Right %t", why, states, arcs, f.Init, dawg.Right(f))
	}
}

// P13.1, P1: many long words that have little in common.
func TestBuildOfManyLongWords(t *testing.T) {
	n := numbers(2)
	values := map[string]uint64{}
	for range 1000 {
		w := make([]byte, 200+n.below(56))
		for i := range w {
			w[i] = byte(n.below(256))
		}
		values[string(w)] = someValues()[n.below(len(someValues()))]
	}
	f, why := dawg.Build(listOf(values))
	if why != api.OK || !dawg.Right(f) {
		t.Fatalf("Build answers %d, Right %t", why, dawg.Right(f))
	}
	hasWords(t, f, values)
}
