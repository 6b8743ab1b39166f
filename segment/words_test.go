package segment_test

import (
	"fmt"
	"hash/crc32"
	"math"
	"slices"
	"strconv"
	"strings"
	"testing"

	"cedilla/api"
	"cedilla/dawg"
	"cedilla/pack"
	"cedilla/segment"
)

// greatest is the greatest value that is one of an entry.
const greatest = 1 << 32

// of is an entry with a weight.
func of(w string, weight uint32) api.Entry { return api.Entry{Word: w, Weight: weight} }

// gone is an entry of a word that is gone.
func gone(w string) api.Entry { return api.Entry{Word: w, Gone: true} }

// heavy is one that is gone, and has a weight that does not count.
func heavy(w string, weight uint32) api.Entry {
	return api.Entry{Word: w, Weight: weight, Gone: true}
}

// valued is the entry of a value, as chapter 5 tells it.
func valued(w string, value uint64) api.Entry {
	if value == 0 {
		return gone(w)
	}
	return of(w, uint32(value-1))
}

// long is a text of so many bytes.
func long(size int) string { return strings.Repeat("w", size) }

// many is a list of so many entries, of words of few bytes, which rise.
func many(size int) []api.Entry {
	l := make([]api.Entry, size)
	for i := range l {
		l[i] = valued(string([]byte{byte(i >> 16), byte(i >> 8), byte(i)}), uint64(i%7))
	}
	return l
}

// plain is a list as it is answered: of what is gone the weight counts as 0.
func plain(l []api.Entry) []api.Entry {
	l = slices.Clone(l)
	for i, e := range l {
		if e.Gone {
			l[i].Weight = 0
		}
	}
	return l
}

// state is one that is not Final, with these arcs.
func state(arcs ...api.Arc) api.State { return api.State{Arcs: arcs} }

// final is one that is Final, with an Out, and these arcs.
func final(out uint64, arcs ...api.Arc) api.State {
	return api.State{Arcs: arcs, Final: true, Out: out}
}

// arc is one that goes to a state.
func arc(b byte, out uint64, to int) api.Arc { return api.Arc{Byte: b, Out: out, To: to} }

// fst is a transducer.
func fst(init uint64, l ...api.State) api.Fst { return api.Fst{States: l, Init: init} }

// built is the transducer of a list.
func built(t *testing.T, l ...api.Entry) api.Fst {
	t.Helper()
	f, e := dawg.Build(l)
	if e != api.OK {
		t.Fatalf("Build(%s) answers %d", told(l), e)
	}
	return f
}

// laid is the bytes of a transducer with a number of entries.
func laid(t *testing.T, entries int, f api.Fst) string {
	t.Helper()
	s, e := pack.Put(entries, f)
	if e != api.OK {
		t.Fatalf("Put(%d, %s) answers %d", entries, told(f), e)
	}
	return s
}

// copied is a transducer of its own memory.
func copied(f api.Fst) api.Fst {
	f.States = slices.Clone(f.States)
	for i, s := range f.States {
		f.States[i].Arcs = slices.Clone(s.Arcs)
	}
	return f
}

// same tells whether two transducers are alike, empty and nil lists being the same.
func same(f, g api.Fst) bool {
	return f.Init == g.Init && slices.EqualFunc(f.States, g.States, func(a, b api.State) bool {
		return a.Final == b.Final && a.Out == b.Out && slices.Equal(a.Arcs, b.Arcs)
	})
}

// sealed is bytes with their sum behind them, as chapter 1 tells it.
func sealed(s string) string {
	n := crc32.ChecksumIEEE([]byte(s))
	return s + string([]byte{byte(n), byte(n >> 8), byte(n >> 16), byte(n >> 24)})
}

// body is what bytes are the seal of.
func body(s string) string { return s[:len(s)-4] }

// told is anything as a text, or its beginning: bytes as numbers, of all else what could not be printed quoted.
func told(x any) string {
	text := strconv.QuoteToASCII(fmt.Sprintf("%+v", x))
	if s, is := x.(string); is {
		text = fmt.Sprintf("% x", s)
	}
	if len(text) > 400 {
		text = text[:400] + ".."
	}
	return text
}

// value is a word's in a transducer: its sum, and whether that fits into 64 bits.
type value struct {
	sum  uint64
	fits bool
}

func (v value) plus(n uint64) value { return value{v.sum + n, v.fits && v.sum <= math.MaxUint64-n} }

// valuesOf is all words of a transducer that has few ones, as the chapters' words tell it, each with its value.
func valuesOf(f api.Fst) map[string]value {
	l := map[string]value{}
	var from func(at int, row string, v value)
	from = func(at int, row string, v value) {
		s := f.States[at]
		if s.Final {
			l[row] = v.plus(s.Out)
		}
		var gone [256]bool
		for _, a := range s.Arcs {
			// Of several with one byte the first one counts.
			if !gone[a.Byte] {
				gone[a.Byte] = true
				from(a.To, row+string([]byte{a.Byte}), v.plus(a.Out))
			}
		}
	}
	from(len(f.States)-1, "", value{f.Init, true})
	return l
}

// wrongs is why bytes are no segment's, asked one by one as the chapter's words say it.
func wrongs(s string) []string {
	entries, f, err := pack.Get(s)
	if err != nil {
		return []string{"bytes"}
	}
	wrong := map[string]int{}
	if !dawg.Right(f) {
		wrong["right"]++
	}
	words := valuesOf(f)
	if len(words) != entries {
		wrong["many"]++
	}
	if len(words) < 1 {
		wrong["none"]++
	}
	for w, v := range words {
		if len(w) < 1 || len(w) > 255 {
			wrong["size"]++
		}
		if !v.fits || v.sum > greatest {
			wrong["value"]++
		}
	}
	var l []string
	for w := range wrong {
		l = append(l, w)
	}
	slices.Sort(l)
	return l
}

// listOf is the list of which Make makes these bytes, if there is one.
func listOf(s string) []api.Entry {
	_, f, err := pack.Get(s)
	if err != nil {
		return nil
	}
	var l []api.Entry
	for w, v := range valuesOf(f) {
		if !v.fits || v.sum > greatest {
			return nil
		}
		l = append(l, valued(w, v.sum))
	}
	slices.SortFunc(l, func(a, b api.Entry) int { return strings.Compare(a.Word, b.Word) })
	if made, e := segment.Make(l...); e != api.OK || made != s {
		return nil
	}
	return l
}

// chance makes the same row of numbers in each run.
type chance uint64

func (c *chance) below(most int) int {
	*c = *c*6364136223846793005 + 1442695040888963407
	return int(uint64(*c)>>33) % most
}

// values is ordinary ones of entries, and edges.
func values() []uint64 {
	return []uint64{0, 1, 2, 3, 7, 247, 248, 256, 65536, 1 << 31, greatest - 1, greatest}
}

// list is one of at most so many entries, of words of at most so many bytes out of some, so that they often begin and end alike.
func (c *chance) list(entries, size int, bytes string) []api.Entry {
	some := map[string]uint64{}
	for range 1 + c.below(entries) {
		w := make([]byte, 1+c.below(size))
		for i := range w {
			w[i] = bytes[c.below(len(bytes))]
		}
		some[string(w)] = values()[c.below(len(values()))]
	}
	var l []api.Entry
	for w, v := range some {
		l = append(l, valued(w, v))
	}
	slices.SortFunc(l, func(a, b api.Entry) int { return strings.Compare(a.Word, b.Word) })
	return l
}

// samples are lists of all kinds, all of few entries.
func samples() [][]api.Entry {
	return [][]api.Entry{
		{of("a", 4)},
		{gone("\x00")},
		{of("\xff", math.MaxUint32)},
		{of("a", 1), gone("b")},
		{of("a", 0), gone("ab")},
		{of("blue", 7), of("green", 7), gone("grey"), of("red", 1)},
		{of("go", 9), gone("gone"), of("one", 2), of("ones", 300)},
		{gone("\x00"), of("\x00\x00", math.MaxUint32), of("\x00\xff", 0), gone("\xff"), of("\xff\x00", 70000)},
		{of(long(3), 5), of(long(255), 6)},
		{of("ants", 1), of("bats", 2), of("cats", 3), of("rats", 4), of("vat", 1<<31)},
	}
}
