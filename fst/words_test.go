package fst_test

import (
	"math"
	"math/big"
	"slices"
	"strconv"
	"strings"

	"cedilla/api"
)

// greatest is the greatest value that is one of an entry.
const greatest = 1 << 32

// of is an entry with a weight.
func of(w string, weight uint32) api.Entry { return api.Entry{Word: w, Weight: weight} }

// gone is an entry of a word that is gone.
func gone(w string) api.Entry { return api.Entry{Word: w, Gone: true} }

// valued is the entry of a value, as chapter 5 tells it.
func valued(w string, value uint64) api.Entry {
	if value == 0 {
		return gone(w)
	}
	return of(w, uint32(value-1))
}

// state is one that is not Final, with these arcs.
func state(arcs ...api.Arc) api.State { return api.State{Arcs: arcs} }

// final is one that is Final, with an Out, and these arcs.
func final(out uint64, arcs ...api.Arc) api.State {
	return api.State{Arcs: arcs, Final: true, Out: out}
}

// arc is one that goes to a state.
func arc(b byte, out uint64, to int) api.Arc { return api.Arc{Byte: b, Out: out, To: to} }

// made is a transducer.
func made(init uint64, l ...api.State) api.Fst { return api.Fst{States: l, Init: init} }

// sure is a word that a transducer has, with its value, which always fits.
type sure struct {
	word  string
	value *big.Int
}

// isEntrys tells whether a value is one of an entry, as the chapter's words tell it.
func isEntrys(value *big.Int) bool { return value.Cmp(big.NewInt(greatest)) <= 0 }

// wayOf is the way on by b from a state, and whether there is one, as the chapter's words tell it: the first arc among those that are there.
func wayOf(f api.Fst, at int, b byte) (api.Arc, bool) {
	if at < 0 || at >= len(f.States) {
		return api.Arc{}, false
	}
	var there []api.Arc
	for _, a := range f.States[at].Arcs {
		if a.To >= 0 && a.To < len(f.States) && a.To < at {
			there = append(there, a)
		}
	}
	for _, a := range there {
		if a.Byte == b {
			return a, true
		}
	}
	return api.Arc{}, false
}

// bytesOf is the bytes by which there is a way on from a state.
func bytesOf(f api.Fst, at int) []byte {
	var l []byte
	for b := range 256 {
		if _, is := wayOf(f, at, byte(b)); is {
			l = append(l, byte(b))
		}
	}
	return l
}

// wordsOf is all words of a transducer that has few ones, by rising words.
func wordsOf(f api.Fst) []sure {
	var l []sure
	var from func(at int, row string, value *big.Int)
	from = func(at int, row string, value *big.Int) {
		if f.States[at].Final {
			l = append(l, sure{row, plus(value, f.States[at].Out)})
		}
		for _, b := range bytesOf(f, at) {
			a, _ := wayOf(f, at, b)
			from(a.To, row+string([]byte{b}), plus(value, a.Out))
		}
	}
	if len(f.States) > 0 {
		from(len(f.States)-1, "", plus(new(big.Int), f.Init))
	}
	slices.SortStableFunc(l, func(a, b sure) int { return byBytes(a.word, b.word) })
	return l
}

// plus is a sum that always fits.
func plus(a *big.Int, b uint64) *big.Int {
	return new(big.Int).Add(a, new(big.Int).SetUint64(b))
}

// byBytes is below 0, 0 or above 0 as a is less than b, is b, or is not less, as chapter 4 tells it.
func byBytes(a, b string) int {
	for i := 0; i < len(a) && i < len(b); i++ {
		if a[i] != b[i] {
			return int(a[i]) - int(b[i])
		}
	}
	return len(a) - len(b)
}

// entriesOf is the entries of those words whose value is one of an entry.
func entriesOf(words []sure) []api.Entry {
	var l []api.Entry
	for _, x := range words {
		if isEntrys(x.value) {
			l = append(l, valued(x.word, x.value.Uint64()))
		}
	}
	return l
}

// fromOf is the first n entries of words that are not less than w, out of all.
func fromOf(entries []api.Entry, w string, n int) []api.Entry {
	var l []api.Entry
	for _, e := range entries {
		if len(l) < n && byBytes(e.Word, w) >= 0 {
			l = append(l, e)
		}
	}
	return l
}

// copied is a transducer of its own.
func copied(f api.Fst) api.Fst {
	f.States = slices.Clone(f.States)
	for i, s := range f.States {
		f.States[i].Arcs = slices.Clone(s.Arcs)
	}
	return f
}

func same(a, b api.Fst) bool {
	return a.Init == b.Init && slices.EqualFunc(a.States, b.States, func(a, b api.State) bool {
		return a.Final == b.Final && a.Out == b.Out && slices.Equal(a.Arcs, b.Arcs)
	})
}

// told is a transducer as a text.
func told(f api.Fst) string {
	var b strings.Builder
	for at, s := range f.States {
		if at == 20 {
			b.WriteString("[.. of " + strconv.Itoa(len(f.States)) + "] ")
			break
		}
		b.WriteString("[" + strconv.Itoa(at))
		if s.Final {
			b.WriteString(" Final")
		}
		b.WriteString(" " + strconv.FormatUint(s.Out, 10))
		for i, a := range s.Arcs {
			if i == 20 {
				b.WriteString(" .. of " + strconv.Itoa(len(s.Arcs)))
				break
			}
			b.WriteString(" " + strconv.QuoteToASCII(string([]byte{a.Byte})) + "(" + strconv.FormatUint(a.Out, 10) + ")>" + strconv.Itoa(a.To))
		}
		b.WriteString("] ")
	}
	return b.String() + "Init " + strconv.FormatUint(f.Init, 10)
}

// toldList is entries as a text.
func toldList(l []api.Entry) string {
	var s []string
	for i, e := range l {
		if i == 20 {
			s = append(s, ".. of "+strconv.Itoa(len(l)))
			break
		}
		what := " " + strconv.FormatUint(uint64(e.Weight), 10)
		if e.Gone {
			what = " gone" + what
		}
		s = append(s, short(e.Word)+what)
	}
	return strings.Join(s, ", ")
}

// short is a text, of a long one its beginning and its size.
func short(s string) string {
	if len(s) > 12 {
		return strconv.QuoteToASCII(s[:12]) + ".. of " + strconv.Itoa(len(s))
	}
	return strconv.QuoteToASCII(s)
}

// numbers makes the same row of numbers in each run.
type numbers uint64

func (n *numbers) below(most int) int {
	*n = *n*6364136223846793005 + 1442695040888963407
	return int(*n>>33) % most
}

// list is one of at most so many entries, of words of at most so many bytes out of some, so that they often begin and end alike.
func (n *numbers) list(entries, size int, bytes string, values []uint64) []api.Entry {
	some := map[string]uint64{}
	for range n.below(entries + 1) {
		w := make([]byte, 1+n.below(size))
		for i := range w {
			w[i] = bytes[n.below(len(bytes))]
		}
		some[string(w)] = values[n.below(len(values))]
	}
	var l []api.Entry
	for w, value := range some {
		l = append(l, valued(w, value))
	}
	slices.SortFunc(l, func(a, b api.Entry) int { return byBytes(a.Word, b.Word) })
	return l
}

// fst is a transducer of any kind, with so many states at most, and so many arcs of each.
func (n *numbers) fst(states, arcs int, bytes string, outs []uint64) api.Fst {
	var f api.Fst
	if n.below(3) == 0 {
		f.Init = outs[n.below(len(outs))]
	}
	size := n.below(states + 1)
	for range size {
		s := api.State{Final: n.below(2) == 0}
		if n.below(2) == 0 {
			s.Out = outs[n.below(len(outs))]
		}
		for range n.below(arcs + 1) {
			a := arc(bytes[n.below(len(bytes))], 0, n.below(size+3)-1)
			if n.below(2) == 0 {
				a.Out = outs[n.below(len(outs))]
			}
			s.Arcs = append(s.Arcs, a)
		}
		f.States = append(f.States, s)
	}
	return f
}

// values is ordinary ones of entries, and edges.
func values() []uint64 {
	return []uint64{0, 1, 2, 3, 7, 255, 256, 65536, 1<<31 - 1, 1 << 31, greatest - 1, greatest}
}

// tooGreat is values that are none of an entry.
func tooGreat() []uint64 {
	return []uint64{greatest + 1, greatest + 2, greatest + 5, 2 * greatest, 3*greatest + 1, 1<<63 - 1, 1 << 63, math.MaxUint64 - greatest, math.MaxUint64 - 1, math.MaxUint64}
}

// nowhere is numbers of states to which no way leads from a state.
func nowhere(at int) []int {
	return []int{at, at + 1, at + 2, at + 256, at + 1<<32, math.MaxInt32, math.MaxInt, -1, -2, -256, math.MinInt32, math.MinInt, math.MinInt + at}
}
