package pack_test

import (
	"fmt"
	"hash/crc32"
	"math"
	"slices"
	"strings"

	"cedilla/api"
)

// state is one that is not Final, with these arcs.
func state(arcs ...api.Arc) api.State { return api.State{Arcs: arcs} }

// final is one that is Final, with an Out, and these arcs.
func final(out uint64, arcs ...api.Arc) api.State {
	return api.State{Arcs: arcs, Final: true, Out: out}
}

// arc is one that goes to a state.
func arc(b byte, out uint64, to int) api.Arc { return api.Arc{Byte: b, Out: out, To: to} }

// fst is a transducer.
func fst(init uint64, l ...api.State) api.Fst { return api.Fst{States: l, Init: init} }

// arcs is so many arcs to the state 0, of which the first 256 have rising bytes.
func arcs(many int) []api.Arc {
	var l []api.Arc
	for i := range many {
		l = append(l, arc(byte(i), uint64(i%3), 0))
	}
	return l
}

// copied is a transducer of its own memory.
func copied(f api.Fst) api.Fst {
	f.States = slices.Clone(f.States)
	for i, s := range f.States {
		f.States[i].Arcs = slices.Clone(s.Arcs)
	}
	return f
}

// same tells whether two transducers are alike, empty and nil lists being the same.
func same(f, g api.Fst) bool {
	return f.Init == g.Init && slices.EqualFunc(f.States, g.States, func(a, b api.State) bool {
		return a.Final == b.Final && a.Out == b.Out && slices.Equal(a.Arcs, b.Arcs)
	})
}

// told is a transducer as a text, or its beginning.
func told(f api.Fst) string { return short(fmt.Sprintf("%+v", f)) }

// short is a text, or its beginning.
func short(s string) string {
	if len(s) > 400 {
		return s[:400] + ".."
	}
	return s
}

// toldBytes is bytes as a text, or its beginning.
func toldBytes(s string) string { return short(fmt.Sprintf("% x", s)) }

// numberOf is the bytes of a number, as chapter 2 tells it.
func numberOf(n uint64) string {
	if n < 248 {
		return string([]byte{byte(n)})
	}
	b := []byte{247}
	for ; n > 0; n /= 256 {
		b[0]++
		b = append(b, byte(n%256))
	}
	return string(b)
}

// numberAt is the number whose bytes stand at a place, and the place behind them, as chapter 2 tells it.
func numberAt(s string, at int) (n uint64, next int, e api.Errno) {
	if at >= len(s) {
		return 0, at, api.ErrShort
	}
	next = at + 1
	if s[at] > 247 {
		next += int(s[at]) - 247
	}
	if next > len(s) {
		return 0, at, api.ErrShort
	}
	if next == at+1 {
		return uint64(s[at]), next, api.OK
	}
	for i := next - 1; i > at; i-- {
		n = n*256 + uint64(s[i])
	}
	if numberOf(n) != s[at:next] {
		return 0, at, api.ErrForm
	}
	return n, next, api.OK
}

// overlong is bytes of a number of which it does not need all, with this many behind the first one; nothing, if it needs that many, or more.
func overlong(n uint64, many int) string {
	s := string([]byte{byte(247 + many)})
	for i := range many {
		s += string([]byte{byte(n >> (8 * i))})
	}
	if len(s) <= len(numberOf(n)) {
		return ""
	}
	return s
}

// sealed is bytes with their sum behind them, as chapter 1 tells it.
func sealed(s string) string {
	n := crc32.ChecksumIEEE([]byte(s))
	return s + string([]byte{byte(n), byte(n >> 8), byte(n >> 16), byte(n >> 24)})
}

// opened is what bytes are the seal of, and whether they are one.
func opened(s string) (string, bool) {
	if len(s) < 4 || sealed(s[:len(s)-4]) != s {
		return "", false
	}
	return s[:len(s)-4], true
}

// piece is what is laid at one stroke: a byte of the magic, an arc's byte, or a number, which may be from least to most.
type piece struct {
	bytes       string
	number      bool
	least, most uint64
}

// pieces is all of a transducer with a number of entries, one behind the other, as the chapter's words tell it.
func pieces(entries int, f api.Fst) []piece {
	var l []piece
	letter := func(b byte) { l = append(l, piece{bytes: string([]byte{b})}) }
	number := func(n, least, most uint64) { l = append(l, piece{numberOf(n), true, least, most}) }
	letter(0x43)
	letter(0x53)
	letter(1)
	number(uint64(entries), 0, 100000)
	number(uint64(len(f.States)), 1, math.MaxUint64)
	for i, s := range f.States {
		n := len(s.Arcs) + len(s.Arcs)
		if s.Final {
			n++
		}
		number(uint64(n), 0, 513)
		if s.Final {
			number(s.Out, 0, math.MaxUint64)
		}
		for _, a := range s.Arcs {
			letter(a.Byte)
			number(a.Out, 0, math.MaxUint64)
			number(uint64(i-a.To), 1, uint64(i))
		}
	}
	number(f.Init, 0, math.MaxUint64)
	return l
}

// joined is the bytes of all pieces, one behind the other.
func joined(l []piece) string {
	var b strings.Builder
	for _, p := range l {
		b.WriteString(p.bytes)
	}
	return b.String()
}

// bodyOf is the bytes of a transducer with a number of entries, but for the seal.
func bodyOf(entries int, f api.Fst) string { return joined(pieces(entries, f)) }

// wrongs is why a transducer may not be laid with a number of entries, as the chapter's words tell it.
func wrongs(entries int, f api.Fst) []string {
	wrong := map[string]int{}
	if entries < 0 || entries > 100000 {
		wrong["entries"]++
	}
	if len(f.States) < 1 {
		wrong["no states"]++
	}
	for i, s := range f.States {
		if len(s.Arcs) > 256 {
			wrong["arcs"]++
		}
		if !s.Final && s.Out > 0 {
			wrong["out"]++
		}
		for _, a := range s.Arcs {
			if a.To < 0 || a.To > i-1 {
				wrong["to"]++
			}
		}
	}
	var l []string
	for w := range wrong {
		l = append(l, w)
	}
	slices.Sort(l)
	return l
}

// answer is what Get answers, a fault by its number and its place.
type answer struct {
	entries int
	f       api.Fst
	code    api.Errno
	at      int
}

func (a answer) String() string {
	return fmt.Sprintf("%d, %s, %d at %d", a.entries, told(a.f), int(a.code), a.at)
}

// sameAnswer tells whether two answers are alike.
func sameAnswer(a, b answer) bool {
	return a.entries == b.entries && a.code == b.code && a.at == b.at && same(a.f, b.f)
}

// byWords is what Get answers, as the chapter's words tell it.
func byWords(s string) answer {
	body, is := opened(s)
	if !is {
		return answer{code: api.ErrSum}
	}
	w := walk{s: body}
	for _, b := range []byte{0x43, 0x53, 1} {
		if got := w.letter(); w.code == api.OK && got != b {
			w.code, w.at = api.ErrKind, w.at-1
		}
	}
	entries := w.number(0, 100000)
	states := w.number(1, math.MaxUint64)
	var f api.Fst
	for i := uint64(0); i < states && w.code == api.OK; i++ {
		f.States = append(f.States, w.state(i))
	}
	f.Init = w.number(0, math.MaxUint64)
	if w.code == api.OK && w.at < len(body) {
		w.code = api.ErrLong
	}
	if w.code != api.OK {
		return answer{code: w.code, at: w.at}
	}
	return answer{entries: int(entries), f: f}
}

// walk goes through bytes, and stands still once something is wrong.
type walk struct {
	s    string
	at   int
	code api.Errno
}

func (w *walk) letter() byte {
	if w.code == api.OK && w.at == len(w.s) {
		w.code = api.ErrShort
	}
	if w.code != api.OK {
		return 0
	}
	w.at++
	return w.s[w.at-1]
}

func (w *walk) number(least, most uint64) uint64 {
	if w.code != api.OK {
		return 0
	}
	n, next, e := numberAt(w.s, w.at)
	if e == api.OK && (n < least || n > most) {
		e = api.ErrRange
	}
	if e != api.OK {
		w.code = e
		return 0
	}
	w.at = next
	return n
}

func (w *walk) state(i uint64) (s api.State) {
	n := w.number(0, 513)
	if n%2 == 1 {
		s.Final, s.Out = true, w.number(0, math.MaxUint64)
	}
	for ; n >= 2 && w.code == api.OK; n -= 2 {
		b := w.letter()
		out := w.number(0, math.MaxUint64)
		s.Arcs = append(s.Arcs, arc(b, out, int(i-w.number(1, i))))
	}
	return s
}

// numbers are edges and ordinary ones: of each number of bytes the least and the greatest, and what is around them.
func numbers() []uint64 {
	l := []uint64{0, 1, 2, 97, 127, 128, 246, 247, 248, 249, 254, 255, 300, 513, 514, 99999, 100000, 100001}
	for i := 8; i < 64; i += 8 {
		n := uint64(1) << i
		l = append(l, n-1, n, n+1, n*3, n*0x7f)
	}
	return append(l, 1<<63-1, 1<<63, math.MaxUint64-1, math.MaxUint64)
}

// chance makes the same row of numbers in each run.
type chance uint64

func (c *chance) below(most int) int {
	*c = *c*6364136223846793005 + 1442695040888963407
	return int(uint64(*c)>>33) % most
}

// number is one of some number of bytes.
func (c *chance) number() uint64 {
	n := uint64(c.below(1<<16)) | uint64(c.below(1<<16))<<16 | uint64(c.below(1<<16))<<32 | uint64(c.below(1<<16))<<48
	return n >> (8 * c.below(8))
}

// fst is one that may be laid, of so many states at most.
func (c *chance) fst(states int) api.Fst {
	f := api.Fst{Init: c.number()}
	for i := range 1 + c.below(states) {
		var s api.State
		if c.below(2) > 0 {
			s.Final, s.Out = true, c.number()
		}
		for range min(i, 1) * c.below(5) {
			s.Arcs = append(s.Arcs, arc(byte(c.below(256)), c.number(), c.below(i)))
		}
		f.States = append(f.States, s)
	}
	return f
}
