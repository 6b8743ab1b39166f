package segment_test

import (
	"math"
	"slices"
	"strings"
	"testing"

	"cedilla/api"
	"cedilla/dawg"
	"cedilla/segment"
)

// opened finds out whether Open answers a segment of these bytes, and is that.
func opened(t *testing.T, s string) *segment.Segment {
	t.Helper()
	x, e := segment.Open(s)
	if x == nil || e != api.OK {
		t.Fatalf("Open(%s) is %v, %d", told(s), x, e)
	}
	return x
}

// corrupt finds out whether Open answers that these bytes are no segment's.
func corrupt(t *testing.T, s string) {
	t.Helper()
	if x, e := segment.Open(s); x != nil || e != api.ErrCorrupt {
		t.Fatalf("Open(%s) is %v, %d", told(s), x, e)
	}
}

// wrong finds out whether Open answers that the bytes of a transducer with a number of entries are no segment's, of which nothing is wrong but this, by the words.
func wrong(t *testing.T, what string, entries int, f api.Fst) {
	t.Helper()
	s := laid(t, entries, f)
	if l := wrongs(s); !slices.Equal(l, []string{what}) {
		t.Fatalf("of %d, %s not just %s is wrong, but %q", entries, told(f), what, l)
	}
	corrupt(t, s)
}

// asked finds out whether Open answers a segment just if by the words nothing is wrong, and just if Make makes these bytes of a list, and whether that is its list then.
func asked(t *testing.T, s string) bool {
	t.Helper()
	l := listOf(s)
	if wrong := wrongs(s); (len(l) > 0) != (len(wrong) == 0) {
		t.Fatalf("of %s %q is wrong, and Make makes it of %s", told(s), wrong, told(l))
	}
	if len(l) == 0 {
		corrupt(t, s)
		return false
	}
	if x := opened(t, s); x.Len() != len(l) || x.Size() != len(s) || !slices.Equal(x.All(), l) {
		t.Fatalf("%s has %d entries, %d bytes, %s, not %s", told(s), x.Len(), x.Size(), told(x.All()), told(l))
	}
	return true
}

// comes finds out whether these bytes are a segment's, by the words and by Open.
func comes(t *testing.T, s string) {
	t.Helper()
	if !asked(t, s) {
		t.Fatalf("%s is no segment's", told(s))
	}
}

// P16.2: the examples of the chapter.
func TestExamplesOfOpen(t *testing.T) {
	x := opened(t, made(t, of("a", 1), gone("b")))
	if x.Len() != 2 {
		t.Errorf("Len is %d", x.Len())
	}
	getIs(t, x, of("a", 1))
	getIs(t, x, gone("b"))
	hasNone(t, x, "c")
	corrupt(t, "")
	for _, l := range samples() {
		wrong(t, "many", len(l)+1, built(t, l...))
	}
}

// P16.2: what is no transducer's bytes: nothing, no seal, a seal of something else, bytes cut off, bytes more.
func TestOpenOfNoTransducer(t *testing.T) {
	magic := "\x43\x53\x01"
	for _, s := range []string{"", "\x00", "\x00\x00\x00", "\x00\x00\x00\x00", "\xff\xff\xff\xff", "segment", magic, magic + "\x01\x02\x01\x00\x02a\x00\x01\x05", long(1000)} {
		corrupt(t, s)
		corrupt(t, sealed(s[:len(s)/2]))
	}
	for _, l := range samples() {
		s := made(t, l...)
		b := body(s)
		for i := range len(s) {
			corrupt(t, s[:i])
			corrupt(t, s[i+1:])
		}
		for i := range len(b) {
			corrupt(t, sealed(b[:i]))
			corrupt(t, sealed(b[i+1:]))
		}
		for _, more := range []string{"\x00", "\x01", "\xff", b, s} {
			corrupt(t, s+more)
			corrupt(t, more+s)
			corrupt(t, sealed(b+more))
			corrupt(t, sealed(more+b))
		}
		corrupt(t, sealed(s))
		corrupt(t, b)
		for i := range 3 {
			for other := range 256 {
				changed := []byte(b)
				changed[i] = byte(other)
				if string(changed) != b {
					corrupt(t, sealed(string(changed)))
				}
			}
		}
		// The number of entries with more bytes than it needs, and the number of states.
		corrupt(t, sealed(magic+"\xf8"+b[3:]))
		corrupt(t, sealed(b[:4]+"\xf8"+b[4:]))
	}
	// Entries that may not be, and states and arcs without number.
	rest := "\x02\x01\x00\x02a\x00\x01\x05"
	comes(t, sealed(magic+"\x01"+rest))
	for _, entries := range []string{"\xfa\xa1\x86\x01", "\xff\xff\xff\xff\xff\xff\xff\xff\xff", "\xff\x01\x00\x00\x00\x00\x00\x00\x80"} {
		corrupt(t, sealed(magic+entries+rest))
		corrupt(t, sealed(magic+"\x01"+entries+rest[1:]))
		corrupt(t, sealed(magic+"\x01\x02"+entries+rest[2:]))
	}
}

// P16.2: transducers that are not right, with as many entries as they have words, all of which are entries'.
func TestOpenOfWrongTransducers(t *testing.T) {
	end := final(0)
	comes(t, laid(t, 2, fst(1, end, state(arc('a', 0, 0), arc('b', 2, 0)))))
	for _, f := range []api.Fst{
		// Bytes that don't rise, or come twice.
		fst(1, end, state(arc('b', 2, 0), arc('a', 0, 0))),
		fst(1, end, state(arc('a', 0, 0), arc('a', 2, 0), arc('b', 2, 0))),
		fst(1, end, state(arc('a', 0, 0), arc('b', 2, 0), arc('b', 2, 0))),
		// A state to which no way leads, between others, and ahead of all.
		fst(1, end, state(arc('c', 0, 0)), state(arc('a', 0, 0), arc('b', 2, 0))),
		fst(1, end, final(1), state(arc('a', 0, 0), arc('b', 2, 0))),
		fst(1, state(), end, state(arc('a', 0, 1), arc('b', 2, 1))),
		// A state from which no way leads to a Final one.
		fst(1, end, state(), state(arc('a', 0, 0), arc('b', 2, 0), arc('c', 0, 1))),
		// Outs that are not pushed up: of an end, of the root, of states in between.
		fst(0, final(1), state(arc('a', 0, 0), arc('b', 2, 0))),
		fst(0, end, state(arc('a', 1, 0), arc('b', 3, 0))),
		fst(0, end, state(arc('c', 1, 0)), state(arc('a', 0, 1), arc('b', 2, 1))),
		fst(0, end, final(1, arc('c', 2, 0)), state(arc('a', 0, 1))),
		// States that are alike.
		fst(1, end, end, state(arc('a', 0, 0), arc('b', 2, 1))),
		fst(1, end, state(arc('c', 0, 0)), state(arc('c', 0, 0)), state(arc('a', 0, 1), arc('b', 2, 2))),
		// Another order.
		fst(1, end, state(arc('d', 0, 0)), state(arc('c', 0, 0)), state(arc('a', 0, 2), arc('b', 2, 1))),
		fst(1, end, final(0, arc('d', 0, 0)), state(arc('c', 0, 0)), state(arc('a', 0, 2), arc('b', 2, 1))),
	} {
		wrong(t, "right", len(valuesOf(f)), f)
	}
	for _, l := range samples() {
		f := built(t, l...)
		f.States = append([]api.State{final(7)}, f.States...)
		for i := range f.States[1:] {
			for j := range f.States[i+1].Arcs {
				f.States[i+1].Arcs[j].To++
			}
		}
		wrong(t, "right", len(l), f)
	}
}

// P16.2: numbers of entries that are not that of the words: one too many, one too few, none, and others.
func TestOpenOfOtherNumbers(t *testing.T) {
	for _, l := range append(samples(), many(255), many(256), many(257), many(99999), many(100000)) {
		f := built(t, l...)
		comes(t, laid(t, len(l), f))
		for _, n := range []int{0, 1, 2, len(l) - 1, len(l) + 1, 2 * len(l), len(l) + 256, len(l) + 65536, 99999, 100000} {
			if n != len(l) && n <= 100000 {
				wrong(t, "many", n, f)
			}
		}
	}
}

// P16.2: a transducer with no words, right or not, with any number of entries.
func TestOpenOfNoWords(t *testing.T) {
	wrong(t, "none", 0, built(t))
	for _, n := range []int{0, 1, 2, 256, 100000} {
		corrupt(t, laid(t, n, built(t)))
		corrupt(t, laid(t, n, fst(1, state())))
		corrupt(t, laid(t, n, fst(greatest+1, state())))
		corrupt(t, laid(t, n, fst(0, state(), state(arc('a', 0, 0)))))
		corrupt(t, laid(t, n, fst(0, final(0), state())))
	}
}

// chain is as many words as arcs to the power of size, all of this size, none of which has a value above 0: a right transducer.
func chain(size, arcs int) api.Fst {
	f := fst(0, final(0))
	for at := range size {
		var l []api.Arc
		for b := range arcs {
			l = append(l, arc(byte(b), 0, at))
		}
		f.States = append(f.States, state(l...))
	}
	return f
}

// P16.2: more words than there may be entries, also as many as no number of 64 bits tells.
func TestOpenOfTooManyWords(t *testing.T) {
	numbers := []int{0, 1, 2, 3, 255, 256, 34464, 34465, 65536, 99999, 100000}
	for _, words := range []int{100001, 100002, 131072, 165536} {
		f := built(t, many(words)...)
		for _, n := range append(numbers, words-65536, words-100000) {
			corrupt(t, laid(t, n, f))
		}
	}
	for _, c := range []struct{ size, arcs int }{{3, 256}, {4, 256}, {8, 256}, {9, 256}, {16, 16}, {32, 4}, {64, 2}, {128, 2}, {255, 2}, {255, 256}} {
		f := chain(c.size, c.arcs)
		if !dawg.Right(f) {
			t.Fatalf("%s is not right", told(f))
		}
		more := beside(f)
		for _, n := range numbers {
			corrupt(t, laid(t, n, f))
			corrupt(t, laid(t, n, more))
		}
	}
	// As many as there may be, of few states; and one more.
	f := chain(5, 10)
	comes(t, laid(t, 100000, f))
	for _, n := range numbers {
		corrupt(t, laid(t, n, beside(f)))
	}
}

// beside is a transducer whose words are those of f, with a byte ahead of them, and one more; if that is right, it is right.
func beside(f api.Fst) api.Fst {
	f = copied(f)
	f.States = append(f.States, state(arc(0, 0, len(f.States)-1), arc(1, 0, 0)))
	return f
}

// deeper is a transducer whose words are those of f, with these bytes ahead of them; if that is right, it is right.
func deeper(f api.Fst, ahead string) api.Fst {
	f = copied(f)
	for i := len(ahead) - 1; i >= 0; i-- {
		f.States = append(f.States, state(arc(ahead[i], 0, len(f.States)-1)))
	}
	return f
}

// P16.2: words of up to 255 bytes, and of more.
func TestOpenOfLongWords(t *testing.T) {
	for _, l := range samples() {
		most := 0
		for _, e := range l {
			most = max(most, len(e.Word))
		}
		f := built(t, l...)
		for _, size := range []int{most, most + 1, 127, 128, 200, 254, 255} {
			if size >= most && size <= 255 {
				comes(t, laid(t, len(l), deeper(f, strings.Repeat("v", size-most))))
			}
		}
		for _, size := range []int{256, 257, 258, 300, 511, 512, 513, 767, 1000, 4000} {
			wrong(t, "size", len(l), deeper(f, strings.Repeat("v", size-most)))
		}
	}
	corrupt(t, laid(t, 1, deeper(built(t, of("a", 1)), long(100000))))
	// A short one beside a long one.
	f := deeper(built(t, of("a", 1)), long(254))
	shorter := func(f api.Fst) api.Fst {
		f = copied(f)
		top := &f.States[len(f.States)-1]
		top.Arcs = append(top.Arcs, arc('z', 0, 0))
		return f
	}
	comes(t, laid(t, 2, shorter(f)))
	for _, ahead := range []string{"a", "x"} {
		wrong(t, "size", 2, shorter(deeper(f, ahead)))
	}
}

// P16.2: the word of no bytes, alone and beside others, whatever its value is.
func TestOpenOfTheEmptyWord(t *testing.T) {
	for _, init := range []uint64{0, 1, 5, greatest} {
		wrong(t, "size", 1, fst(init, final(0)))
		corrupt(t, laid(t, 0, fst(init, final(0))))
	}
	corrupt(t, laid(t, 1, fst(greatest+1, final(0))))
	corrupt(t, laid(t, 1, fst(math.MaxUint64, final(0))))
	for _, l := range append(samples(), many(99999)) {
		f := built(t, l...)
		root := &f.States[len(f.States)-1]
		root.Final = true
		wrong(t, "size", len(l)+1, f)
		corrupt(t, laid(t, len(l), f))
		for _, out := range []uint64{1, greatest, greatest + 1, math.MaxUint64} {
			root.Out = out
			corrupt(t, laid(t, len(l)+1, f))
			corrupt(t, laid(t, len(l), f))
		}
	}
}

// tooGreat is values that are none of an entry.
func tooGreat() []uint64 {
	return []uint64{greatest + 1, greatest + 2, 2 * greatest, 2*greatest + 1, 1<<63 - 1, 1 << 63, math.MaxUint64 - 1, math.MaxUint64}
}

// P16.2: values that are none of an entry, of one word, of the first, of the last, and of all.
func TestOpenOfValues(t *testing.T) {
	for _, v := range values() {
		comes(t, laid(t, 1, fst(v, final(0), state(arc('a', 0, 0)))))
		comes(t, laid(t, 2, fst(0, final(0), state(arc('a', v, 0), arc('b', 0, 0)))))
		comes(t, laid(t, 2, fst(greatest-v, final(0), state(arc('a', 0, 0), arc('b', v, 0)))))
		comes(t, laid(t, 2, fst(0, final(0), final(v, arc('b', 0, 0)), state(arc('a', 0, 1)))))
	}
	for _, v := range tooGreat() {
		wrong(t, "value", 1, fst(v, final(0), state(arc('a', 0, 0))))
		wrong(t, "value", 2, fst(v, final(0), state(arc('a', 0, 0), arc('b', 1, 0))))
		wrong(t, "value", 2, fst(0, final(0), state(arc('a', v, 0), arc('b', 0, 0))))
		wrong(t, "value", 2, fst(0, final(0), state(arc('a', 0, 0), arc('b', v, 0))))
		wrong(t, "value", 3, fst(0, final(0), state(arc('a', 0, 0), arc('b', v, 0), arc('c', 3, 0))))
		wrong(t, "value", 2, fst(0, final(0), final(v, arc('b', 0, 0)), state(arc('a', 0, 1))))
		wrong(t, "value", 2, fst(0, final(0), final(0, arc('b', v, 0)), state(arc('a', 0, 1))))
	}
	wrong(t, "value", 2, fst(1, final(0), state(arc('a', 0, 0), arc('b', greatest, 0))))
	wrong(t, "value", 2, fst(greatest, final(0), final(0, arc('b', 1, 0)), state(arc('a', 0, 1))))
}

// P16.2: values that don't fit into 64 bits, and cut off would be an entry's; all others are.
func TestOpenOfValuesThatDontFit(t *testing.T) {
	for _, cut := range []uint64{0, 1, 7, greatest - 1} {
		for _, most := range []uint64{cut + 1, greatest} {
			over := cut - most
			wrong(t, "value", 2, fst(most, final(0), state(arc('a', 0, 0), arc('b', over, 0))))
			wrong(t, "value", 2, fst(most, final(0), state(arc('a', over, 0), arc('b', 0, 0))))
			wrong(t, "value", 2, fst(most, final(0), final(over, arc('b', 0, 0)), state(arc('a', 0, 1))))
			wrong(t, "value", 2, fst(most, final(0), final(0, arc('b', over, 0)), state(arc('a', 0, 1))))
			wrong(t, "value", 3, fst(0, final(0), final(over, arc('b', 0, 0)), state(arc('a', most, 1), arc('c', 0, 0))))
			wrong(t, "value", 3, fst(0, final(0), final(0, arc('b', over, 0)), state(arc('a', most, 1), arc('c', 0, 0))))
			// What is behind would bring it down to an entry's but later.
			wrong(t, "value", 3, fst(1, final(0), final(0, arc('b', over-1, 0)), state(arc('a', most, 1), arc('c', 0, 0))))
		}
	}
}
