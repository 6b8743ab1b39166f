package dawg_test

import (
	"math"
	"slices"
	"strconv"
	"strings"

	"cedilla/api"
)

// greatest is the value of the greatest weight.
const greatest = 1 << 32

// of is an entry with a weight.
func of(w string, weight uint32) api.Entry { return api.Entry{Word: w, Weight: weight} }

// gone is an entry of a word that is gone.
func gone(w string) api.Entry { return api.Entry{Word: w, Gone: true} }

// heavy is one that is gone, and has a weight that does not count.
func heavy(w string, weight uint32) api.Entry { return api.Entry{Word: w, Weight: weight, Gone: true} }

// valued is an entry of a word with this value.
func valued(w string, value uint64) api.Entry {
	if value == 0 {
		return gone(w)
	}
	return of(w, uint32(value-1))
}

// state is one that is not Final, with these arcs.
func state(arcs ...api.Arc) api.State { return api.State{Arcs: arcs} }

// final is one that is Final, with an Out, and these arcs.
func final(out uint64, arcs ...api.Arc) api.State {
	return api.State{Arcs: arcs, Final: true, Out: out}
}

// arc is one that goes to a state.
func arc(b byte, out uint64, to int) api.Arc { return api.Arc{Byte: b, Out: out, To: to} }

// fst is a transducer.
func fst(init uint64, l ...api.State) api.Fst { return api.Fst{States: l, Init: init} }

// long is a text of so many bytes.
func long(size int) string { return strings.Repeat("w", size) }

// valuesOf is the value of each word of a list, as chapter 5 tells it.
func valuesOf(l []api.Entry) map[string]uint64 {
	values := map[string]uint64{}
	for _, e := range l {
		values[e.Word] = 0
		if !e.Gone {
			values[e.Word] = uint64(e.Weight) + 1
		}
	}
	return values
}

// listOf is the list of words with these values.
func listOf(values map[string]uint64) []api.Entry {
	var l []api.Entry
	for w, value := range values {
		l = append(l, valued(w, value))
	}
	slices.SortFunc(l, func(a, b api.Entry) int { return byBytes(a.Word, b.Word) })
	return l
}

// byBytes is below 0, 0 or above 0 as a is less than b, is b, or is not less, as chapter 4 tells it.
func byBytes(a, b string) int {
	for i := 0; i < len(a) && i < len(b); i++ {
		if a[i] != b[i] {
			return int(a[i]) - int(b[i])
		}
	}
	return len(a) - len(b)
}

// checkByWords is Check's error, as chapter 5 tells it.
func checkByWords(l []api.Entry) api.Errno {
	for i, e := range l {
		if len(e.Word) < 1 || len(e.Word) > 255 {
			return api.ErrInvalid
		}
		if i > 0 && byBytes(l[i-1].Word, e.Word) >= 0 {
			return api.ErrOrder
		}
	}
	return api.OK
}

// wordsOf is all words of a transducer whose arcs go down, each with its value.
func wordsOf(f api.Fst) map[string]uint64 {
	values := map[string]uint64{}
	var from func(at int, row []byte, sum uint64)
	from = func(at int, row []byte, sum uint64) {
		s := f.States[at]
		if s.Final {
			values[string(row)] = sum + s.Out
		}
		for _, a := range s.Arcs {
			from(a.To, append(row, a.Byte), sum+a.Out)
		}
	}
	if len(f.States) > 0 {
		from(len(f.States)-1, nil, f.Init)
	}
	return values
}

// valueOf is the value of a row of bytes in a transducer, and whether it has one, as the chapter's words tell it.
func valueOf(f api.Fst, row string) (uint64, bool) {
	at, sum := len(f.States)-1, f.Init
way:
	for i := range len(row) {
		for _, a := range f.States[at].Arcs {
			if a.Byte == row[i] {
				at, sum = a.To, sum+a.Out
				continue way
			}
		}
		return 0, false
	}
	if !f.States[at].Final {
		return 0, false
	}
	return sum + f.States[at].Out, true
}

// rests is what may stand behind a beginning of words, each rest with what its word's value is above the least of these words.
type rests struct {
	text  string
	least uint64
	final bool
	own   uint64
	ways  []byte
}

// restsOf is the rests behind a beginning.
func restsOf(values map[string]uint64, begin string) rests {
	r := rests{least: math.MaxUint64}
	var l []string
	for w, value := range values {
		if strings.HasPrefix(w, begin) {
			r.least = min(r.least, value)
		}
	}
	for w, value := range values {
		if !strings.HasPrefix(w, begin) {
			continue
		}
		l = append(l, strconv.Quote(w[len(begin):])+" "+strconv.FormatUint(value-r.least, 10))
		if w == begin {
			r.final, r.own = true, value-r.least
		} else {
			r.ways = append(r.ways, w[len(begin)])
		}
	}
	slices.Sort(l)
	slices.Sort(r.ways)
	r.ways = slices.Compact(r.ways)
	r.text = strings.Join(l, ",")
	return r
}

// buildByWords is the transducer of words with these values, as the chapter's words tell it: beginnings with the same rests lead to one state.
func buildByWords(values map[string]uint64) api.Fst {
	if len(values) == 0 {
		return fst(0, state())
	}
	var f api.Fst
	numbers := map[string]int{}
	var from func(begin string) (int, uint64)
	from = func(begin string) (int, uint64) {
		r := restsOf(values, begin)
		if n, is := numbers[r.text]; is {
			return n, r.least
		}
		s := api.State{Final: r.final, Out: r.own}
		for _, b := range r.ways {
			to, least := from(begin + string([]byte{b}))
			s.Arcs = append(s.Arcs, arc(b, least-r.least, to))
		}
		numbers[r.text] = len(f.States)
		f.States = append(f.States, s)
		return numbers[r.text], r.least
	}
	_, f.Init = from("")
	return f
}

// wrongs is what keeps a transducer from being right, asked one by one as the chapter's words say it.
func wrongs(f api.Fst) []string {
	if len(f.States) == 0 {
		return []string{"no states"}
	}
	for at, s := range f.States {
		for _, a := range s.Arcs {
			if a.To < 0 || a.To >= at {
				// Nobody can go along its ways.
				return []string{"to"}
			}
		}
	}
	var l []string
	for _, ask := range []struct {
		what string
		is   func(f api.Fst) bool
	}{
		{"bytes", arcsRise}, {"out", outsCount}, {"lost", allAreReached}, {"dead", allReachFinal},
		{"pushed", allArePushed}, {"alike", noneAreAlike}, {"order", areInOrder},
	} {
		if !ask.is(f) {
			l = append(l, ask.what)
		}
	}
	return l
}

func arcsRise(f api.Fst) bool {
	for _, s := range f.States {
		for i, a := range s.Arcs {
			for _, b := range s.Arcs[:i] {
				if int(b.Byte) >= int(a.Byte) {
					return false
				}
			}
		}
	}
	return true
}

func outsCount(f api.Fst) bool {
	return !slices.ContainsFunc(f.States, func(s api.State) bool { return !s.Final && s.Out != 0 })
}

// reached is the states to which ways lead from the root.
func reached(f api.Fst) []bool {
	is := make([]bool, len(f.States))
	is[len(is)-1] = true
	for at := len(is) - 1; at >= 0; at-- {
		for _, a := range f.States[at].Arcs {
			is[a.To] = is[a.To] || is[at]
		}
	}
	return is
}

func allAreReached(f api.Fst) bool { return !slices.Contains(reached(f), false) }

func noneIsFinal(f api.Fst) bool {
	return !slices.ContainsFunc(f.States, func(s api.State) bool { return s.Final })
}

func allReachFinal(f api.Fst) bool {
	if noneIsFinal(f) {
		return len(f.States) == 1 && f.Init == 0
	}
	is := make([]bool, len(f.States))
	for at, s := range f.States {
		is[at] = s.Final
		for _, a := range s.Arcs {
			is[at] = is[at] || is[a.To]
		}
	}
	return !slices.Contains(is, false)
}

func allArePushed(f api.Fst) bool {
	for _, s := range f.States {
		var outs []uint64
		for _, a := range s.Arcs {
			outs = append(outs, a.Out)
		}
		if s.Final {
			outs = append(outs, s.Out)
		}
		// One without any leads to nothing, which is asked elsewhere.
		if len(outs) > 0 && slices.Min(outs) != 0 {
			return false
		}
	}
	return true
}

func noneAreAlike(f api.Fst) bool {
	for i, s := range f.States {
		for _, other := range f.States[:i] {
			if sameState(s, other) {
				return false
			}
		}
	}
	return true
}

func areInOrder(f api.Fst) bool {
	numbers := map[int]int{}
	var from func(at int)
	from = func(at int) {
		if _, is := numbers[at]; is {
			return
		}
		arcs := slices.Clone(f.States[at].Arcs)
		slices.SortStableFunc(arcs, func(a, b api.Arc) int { return int(a.Byte) - int(b.Byte) })
		for _, a := range arcs {
			from(a.To)
		}
		numbers[at] = len(numbers)
	}
	from(len(f.States) - 1)
	if len(numbers) < len(f.States) {
		// Some are lost, which is asked elsewhere.
		return true
	}
	for at, n := range numbers {
		if at != n {
			return false
		}
	}
	return true
}

func sameState(a, b api.State) bool {
	return a.Final == b.Final && a.Out == b.Out && slices.Equal(a.Arcs, b.Arcs)
}

func same(a, b api.Fst) bool {
	return a.Init == b.Init && slices.EqualFunc(a.States, b.States, sameState)
}

// copied is a transducer of its own.
func copied(f api.Fst) api.Fst {
	f.States = slices.Clone(f.States)
	for i, s := range f.States {
		f.States[i].Arcs = slices.Clone(s.Arcs)
	}
	return f
}

// told is a transducer as a text.
func told(f api.Fst) string {
	var b strings.Builder
	for at, s := range f.States {
		if at == 20 {
			b.WriteString("[.. of " + strconv.Itoa(len(f.States)) + "] ")
			break
		}
		b.WriteString("[" + strconv.Itoa(at))
		if s.Final {
			b.WriteString(" Final")
		}
		b.WriteString(" " + strconv.FormatUint(s.Out, 10))
		for i, a := range s.Arcs {
			if i == 20 {
				b.WriteString(" .. of " + strconv.Itoa(len(s.Arcs)))
				break
			}
			b.WriteString(" " + strconv.QuoteToASCII(string([]byte{a.Byte})) + "(" + strconv.FormatUint(a.Out, 10) + ")>" + strconv.Itoa(a.To))
		}
		b.WriteString("] ")
	}
	return b.String() + "Init " + strconv.FormatUint(f.Init, 10)
}

// toldList is entries as a text.
func toldList(l []api.Entry) string {
	var s []string
	for i, e := range l {
		if i == 20 {
			s = append(s, ".. of "+strconv.Itoa(len(l)))
			break
		}
		what := " " + strconv.FormatUint(uint64(e.Weight), 10)
		if e.Gone {
			what = " gone" + what
		}
		s = append(s, short(e.Word)+what)
	}
	return strings.Join(s, ", ")
}

// short is a text, of a long one its beginning and its size.
func short(s string) string {
	if len(s) > 12 {
		return strconv.QuoteToASCII(s[:12]) + ".. of " + strconv.Itoa(len(s))
	}
	return strconv.QuoteToASCII(s)
}

// numbers makes the same row of numbers in each run.
type numbers uint64

func (n *numbers) below(most int) int {
	*n = *n*6364136223846793005 + 1442695040888963407
	return int(*n>>33) % most
}

// list is one of at most so many entries, of words of at most so many bytes out of some, so that they often begin and end alike.
func (n *numbers) list(entries, size int, bytes string, values []uint64) []api.Entry {
	some := map[string]uint64{}
	for range n.below(entries + 1) {
		w := make([]byte, 1+n.below(size))
		for i := range w {
			w[i] = bytes[n.below(len(bytes))]
		}
		some[string(w)] = values[n.below(len(values))]
	}
	return listOf(some)
}

// pair is the first bytes of those that stand at the edges, and of ordinary ones.
func pairs() []string { return []string{"ab", "\x00\xff", "\x7f\x80"} }

// someValues is ordinary values, and edges.
func someValues() []uint64 {
	return []uint64{0, 1, 2, 3, 7, 255, 256, 65536, 1<<31 - 1, 1 << 31, greatest - 1, greatest}
}
