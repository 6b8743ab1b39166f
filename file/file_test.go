package file_test

import (
	"math"
	"slices"
	"strconv"
	"strings"
	"testing"

	"cedilla/api"
	"cedilla/file"
)

// deed is an act, as the chapter tells it: bytes that are appended, or a cut to a number of bytes.
type deed struct {
	adds string
	cuts bool
	to   int
}

// words is a file as the chapter's words tell it: all that it answers is made of them each time.
type words struct {
	durable string
	deeds   []deed
}

// behind is what is read behind the first deeds.
func (w words) behind(many int) string {
	s := w.durable
	for _, d := range w.deeds[:many] {
		if d.cuts {
			s = s[:d.to]
		} else {
			s += d.adds
		}
	}
	return s
}

func (w words) read() string { return w.behind(len(w.deeds)) }

func (w *words) append(l ...string) api.Errno {
	if s := strings.Join(l, ""); s != "" {
		w.deeds = append(slices.Clone(w.deeds), deed{adds: s})
	}
	return api.OK
}

func (w *words) cut(n int) api.Errno {
	many := len(w.read())
	if n < 0 || n > many {
		return api.ErrRange
	}
	if n != many {
		w.deeds = append(slices.Clone(w.deeds), deed{cuts: true, to: n})
	}
	return api.OK
}

func (w *words) sync() api.Errno {
	*w = words{durable: w.read()}
	return api.OK
}

// stays is what stays of a choice.
func (w words) stays(c file.Choice) string {
	done := c.Done
	if done < 0 {
		done = 0
	}
	if done >= len(w.deeds) {
		return w.read()
	}
	s, next := w.behind(done), w.deeds[done]
	if next.cuts || c.Part < 0 {
		return s
	}
	if c.Part > len(next.adds) {
		return s + next.adds
	}
	return s + next.adds[:c.Part]
}

func (w *words) stay(c file.Choice) api.Errno {
	*w = words{durable: w.stays(c)}
	return api.OK
}

func (w words) readAt(at, n int) (string, api.Errno) {
	s := w.read()
	if at < 0 || n < 0 || at > len(s) {
		return "", api.ErrRange
	}
	if n > len(s)-at {
		n = len(s) - at
	}
	return s[at : at+n], api.OK
}

// both is a file, the same by the words, and what was called of it.
type both struct {
	t     *testing.T
	f     *file.File
	w     words
	calls string
}

func start(t *testing.T, durable string) *both {
	return &both{t: t, f: file.New(durable), w: words{durable: durable}, calls: "New(" + strconv.QuoteToASCII(durable) + ")"}
}

// copied is a copy of both.
func (b *both) copied() *both {
	return &both{t: b.t, f: b.f.Copy(), w: b.w, calls: b.calls + " Copy()"}
}

// answered finds out whether a call answered what the words say, and whether the file is behind it what they say.
func (b *both) answered(call string, got, want api.Errno) {
	b.t.Helper()
	b.calls += " " + call
	if got != want {
		b.t.Errorf("%s: %d, not %d", b.told(), got, want)
	}
	b.alike()
}

func (b *both) append(l ...string) {
	b.t.Helper()
	b.answered("Append("+strconv.Itoa(len(l))+" texts: "+strconv.QuoteToASCII(strings.Join(l, "|"))+")", b.f.Append(l...), b.w.append(l...))
}

func (b *both) cut(n int) {
	b.t.Helper()
	b.answered("Cut("+strconv.Itoa(n)+")", b.f.Cut(n), b.w.cut(n))
}

func (b *both) sync() {
	b.t.Helper()
	b.answered("Sync()", b.f.Sync(), b.w.sync())
}

func (b *both) stay(c file.Choice) {
	b.t.Helper()
	b.answered("Stay("+strconv.Itoa(c.Done)+", "+strconv.Itoa(c.Part)+")", b.f.Stay(c), b.w.stay(c))
}

// alike finds out whether the file is what the words say.
func (b *both) alike() {
	b.t.Helper()
	read := b.w.read()
	if s := b.f.Bytes(); s != read {
		b.t.Errorf("%s: Bytes are %q, not %q", b.told(), short(s), short(read))
	}
	if n := b.f.Len(); n != len(read) {
		b.t.Errorf("%s: Len is %d, not %d", b.told(), n, len(read))
	}
	if s := b.f.Durable(); s != b.w.durable {
		b.t.Errorf("%s: Durable is %q, not %q", b.told(), short(s), short(b.w.durable))
	}
	if n := b.f.Acts(); n != len(b.w.deeds) {
		b.t.Errorf("%s: Acts are %d, not %d", b.told(), n, len(b.w.deeds))
	}
	b.reads(0, len(read))
}

func (b *both) reads(at, n int) {
	b.t.Helper()
	want, why := b.w.readAt(at, n)
	if s, got := b.f.ReadAt(at, n); s != want || got != why {
		b.t.Errorf("%s: ReadAt(%d, %d) is %q, %d, not %q, %d", b.told(), at, n, short(s), got, short(want), why)
	}
}

// is finds out whether the file reads, and has durable, and has so many acts.
func (b *both) is(read, durable string, acts int) {
	b.t.Helper()
	if b.f.Bytes() != read || b.f.Len() != len(read) || b.f.Durable() != durable || b.f.Acts() != acts {
		b.t.Errorf("%s: %q, %d, %q, %d, not %q, %d, %q, %d", b.told(), short(b.f.Bytes()), b.f.Len(), short(b.f.Durable()), b.f.Acts(), short(read), len(read), short(durable), acts)
	}
}

// told is the calls, of many the last ones.
func (b *both) told() string {
	if len(b.calls) > 500 {
		return ".." + b.calls[len(b.calls)-500:]
	}
	return b.calls
}

// short is a text, of a long one its beginning.
func short(s string) string {
	if len(s) > 60 {
		return s[:60] + ".."
	}
	return s
}

// numbers makes the same row of numbers in each run.
type numbers uint64

func (n *numbers) below(most int) int {
	*n = *n*6364136223846793005 + 1442695040888963407
	return int(*n>>33) % most
}

// text is a text of any bytes.
func (n *numbers) text(size int) string {
	b := make([]byte, size)
	for i := range b {
		b[i] = byte(n.below(256))
	}
	return string(b)
}

// choice is a choice about what there is, now and then far beside it.
func (n *numbers) choice(acts int) file.Choice {
	far := []int{math.MinInt, -1, 0, 1, math.MaxInt}
	c := file.Choice{Done: n.below(acts+3) - 1, Part: n.below(12) - 1}
	if n.below(10) == 0 {
		c.Done = far[n.below(len(far))]
	}
	if n.below(10) == 0 {
		c.Part = far[n.below(len(far))]
	}
	return c
}

// any calls any one of the calls that change the file.
func (n *numbers) any(b *both) {
	b.t.Helper()
	switch n.below(10) {
	case 0, 1, 2, 3:
		var l []string
		for range n.below(4) {
			l = append(l, n.text(n.below(6)))
		}
		b.append(l...)
	case 4, 5, 6:
		b.cut(n.below(b.f.Len()+3) - 1)
	case 7:
		b.cut(b.f.Len() - n.below(3))
	case 8:
		b.sync()
	default:
		b.stay(n.choice(b.f.Acts()))
	}
}

// edges are numbers at which a choice, a cut or a place may go wrong, about the most that there is.
func edges(most int) []int {
	return []int{math.MinInt, math.MinInt + 1, -300, -2, -1, 0, 1, 2, most / 2, most - 1, most, most + 1, most + 2, most + 300, 1 << 31, 1 << 32, math.MaxInt - 1, math.MaxInt}
}

// example is the file of the chapter's examples.
func example(t *testing.T) *both {
	b := start(t, "ab")
	b.append("cd")
	b.cut(3)
	b.append("xyz")
	return b
}

// P6.1, P6.2: the examples of the chapter.
func TestExamples(t *testing.T) {
	example(t).is("abcxyz", "ab", 3)
	for _, x := range []struct {
		c     file.Choice
		stays string
	}{
		{file.Choice{}, "ab"},
		{file.Choice{Part: 1}, "abc"},
		{file.Choice{Done: 1}, "abcd"},
		{file.Choice{Done: 2, Part: 2}, "abcxy"},
		{file.Choice{Done: 9, Part: 9}, "abcxyz"},
		{file.Choice{Done: 1, Part: 5}, "abcd"},
	} {
		b := example(t)
		b.stay(x.c)
		b.is(x.stays, x.stays, 0)
	}
	f := example(t).f
	if s, e := f.ReadAt(4, 9); s != "yz" || e != api.OK {
		t.Errorf("ReadAt(4, 9) is %q, %d", s, e)
	}
	if s, e := f.ReadAt(7, 1); s != "" || e != api.ErrRange {
		t.Errorf("ReadAt(7, 1) is %q, %d", s, e)
	}
}

// P6.1: a new file has its bytes, whatever they are, all durable.
func TestNew(t *testing.T) {
	n := numbers(1)
	for _, s := range []string{"", "a", "\x00", "\xff\xfe", "na\xc3\xafve\n", strings.Repeat("\x00", 1000), n.text(5000)} {
		b := start(t, s)
		b.alike()
		b.is(s, s, 0)
		b.sync()
		b.is(s, s, 0)
		b.stay(file.Choice{})
		b.is(s, s, 0)
	}
}

// P6.1: what is appended in one call is one act, however many texts it has.
func TestAppend(t *testing.T) {
	for _, durable := range []string{"", "ab"} {
		b := start(t, durable)
		b.append("c")
		b.is(durable+"c", durable, 1)
		b.append("d", "ef", "", "g")
		b.is(durable+"cdefg", durable, 2)
		b.append("", "", "\x00", "")
		b.is(durable+"cdefg\x00", durable, 3)
		b.append("h", "h", "h")
		b.is(durable+"cdefg\x00hhh", durable, 4)
		b.stay(file.Choice{Done: 1, Part: 3})
		b.is(durable+"cdef", durable+"cdef", 0)
	}
}

// P6.1: an append of no bytes is no act.
func TestAppendOfNothing(t *testing.T) {
	for _, l := range [][]string{nil, {}, {""}, {"", "", ""}} {
		b := start(t, "ab")
		b.append(l...)
		b.is("ab", "ab", 0)
		b.append("c")
		b.append(l...)
		b.is("abc", "ab", 1)
		b.cut(1)
		b.append(l...)
		b.is("a", "ab", 2)
		b = start(t, "")
		b.append(l...)
		b.is("", "", 0)
	}
}

// P6.1: cuts to each number of bytes, and to such as there are not.
func TestCut(t *testing.T) {
	for _, durable := range []string{"", "a", "abcdef"} {
		for _, added := range []string{"", "g", "ghijkl"} {
			many := len(durable + added)
			for n := -3; n <= many+3; n++ {
				b := start(t, durable)
				b.append(added)
				acts := b.f.Acts()
				b.cut(n)
				switch {
				case n < 0 || n > many:
					b.is(durable+added, durable, acts)
					if e := b.f.Cut(n); e != api.ErrRange {
						t.Errorf("%s: %d", b.told(), e)
					}
				case n == many:
					b.is(durable+added, durable, acts)
				default:
					b.is((durable + added)[:n], durable, acts+1)
				}
			}
			for _, n := range edges(many) {
				b := start(t, durable)
				b.append(added)
				b.cut(n)
			}
		}
	}
}

// P6.1: a cut to Len is no act, behind other cuts too; what was cut off can't be cut to any more.
func TestCutTwice(t *testing.T) {
	b := start(t, "abcdef")
	b.cut(3)
	b.cut(3)
	b.is("abc", "abcdef", 1)
	b.cut(4)
	b.is("abc", "abcdef", 1)
	b.cut(0)
	b.is("", "abcdef", 2)
	b.cut(0)
	b.cut(1)
	b.is("", "abcdef", 2)
	b.append("xy")
	b.is("xy", "abcdef", 3)
	b.sync()
	b.cut(2)
	b.cut(3)
	b.is("xy", "xy", 0)
	b.cut(1)
	b.stay(file.Choice{})
	b.is("xy", "xy", 0)
}

// P6.1: a Sync makes durable what is read, and leaves no acts, if there were any or not.
func TestSync(t *testing.T) {
	b := start(t, "ab")
	b.sync()
	b.is("ab", "ab", 0)
	b.append("c", "d")
	b.sync()
	b.is("abcd", "abcd", 0)
	b.sync()
	b.is("abcd", "abcd", 0)
	b.cut(1)
	b.append("x")
	b.is("ax", "abcd", 2)
	b.sync()
	b.is("ax", "ax", 0)
	b.cut(0)
	b.sync()
	b.is("", "", 0)
	b.append("y")
	b.sync()
	b.stay(file.Choice{Done: -1, Part: -1})
	b.is("y", "y", 0)
}

// rows tells rows of calls, each of a name, that lead to acts of all kinds.
func rows() map[string]func(b *both) {
	return map[string]func(b *both){
		"none":                    func(b *both) {},
		"an append":               func(b *both) { b.append("xyz") },
		"an append of several":    func(b *both) { b.append("x", "", "yz", "w") },
		"an append of one byte":   func(b *both) { b.append("x") },
		"a cut":                   func(b *both) { b.cut(1) },
		"a cut to none":           func(b *both) { b.cut(0) },
		"two appends":             func(b *both) { b.append("xyz"); b.append("uvw") },
		"an append, a cut of it":  func(b *both) { b.append("xyz"); b.cut(4) },
		"an append, a cut behind": func(b *both) { b.append("xyz"); b.cut(1) },
		"a cut, an append":        func(b *both) { b.cut(1); b.append("xyz") },
		"a cut, a longer append":  func(b *both) { b.cut(0); b.append("uvwxyz") },
		"cuts":                    func(b *both) { b.cut(2); b.cut(1); b.cut(0) },
		"in turn":                 func(b *both) { b.append("xy"); b.cut(4); b.append("uvw"); b.cut(2); b.append("z") },
		"in turn, a cut last":     func(b *both) { b.cut(2); b.append("xy"); b.cut(1); b.append("uvw"); b.cut(0) },
		"what is again as it was": func(b *both) { b.cut(1); b.append("bc"); b.cut(1); b.append("bc") },
		"a sync, then acts":       func(b *both) { b.append("xy"); b.sync(); b.append("uvw"); b.cut(4) },
		"a stay, then acts":       func(b *both) { b.append("xy"); b.stay(file.Choice{Part: 1}); b.append("uvw"); b.cut(4) },
		"a sync, a cut below it":  func(b *both) { b.append("xy"); b.sync(); b.append("uvw"); b.cut(4); b.append("rst") },
		"what is no act in between": func(b *both) {
			b.append("xy")
			b.append("")
			b.cut(5)
			b.cut(9)
			b.cut(-1)
			b.append("z")
		},
	}
}

// P6.1: what stays of each choice, whatever the next act is, if there is one.
func TestStay(t *testing.T) {
	for name, row := range rows() {
		t.Run(name, func(t *testing.T) {
			made := start(t, "abc")
			row(made)
			for _, done := range edges(made.f.Acts()) {
				for _, part := range edges(3) {
					c := file.Choice{Done: done, Part: part}
					b := made.copied()
					b.stay(c)
					b.is(made.w.stays(c), made.w.stays(c), 0)
				}
			}
			made.alike()
		})
	}
}

// P6.1: the choices that the chapter names, told by hand.
func TestStayByHand(t *testing.T) {
	for _, x := range []struct {
		row        string
		done, part int
		stays      string
	}{
		{"none", 0, 0, "abc"},
		{"none", -1, -1, "abc"},
		{"none", 5, 5, "abc"},
		{"an append", 0, 0, "abc"},
		{"an append", 0, -1, "abc"},
		{"an append", -1, 2, "abcxy"},
		{"an append", -7, 0, "abc"},
		{"an append", 0, 3, "abcxyz"},
		{"an append", 0, 4, "abcxyz"},
		{"an append", 1, -4, "abcxyz"},
		{"an append", 1, 0, "abcxyz"},
		{"an append of several", 0, 2, "abcxy"},
		{"a cut", 0, 0, "abc"},
		{"a cut", 0, 9, "abc"},
		{"a cut", -1, 1, "abc"},
		{"a cut", 1, 0, "a"},
		{"a cut", 2, 9, "a"},
		{"two appends", 0, 9, "abcxyz"},
		{"two appends", 1, 2, "abcxyzuv"},
		{"two appends", 2, 0, "abcxyzuvw"},
		{"a cut, an append", 0, 3, "abc"},
		{"a cut, an append", 1, 0, "a"},
		{"a cut, an append", 1, 2, "axy"},
		{"a cut, an append", 2, 0, "axyz"},
		{"an append, a cut behind", 1, 9, "abcxyz"},
		{"an append, a cut behind", 2, 0, "a"},
		{"in turn", 2, 2, "abcxuv"},
		{"in turn", 4, -1, "ab"},
		{"in turn", 4, 1, "abz"},
	} {
		b := start(t, "abc")
		rows()[x.row](b)
		b.stay(file.Choice{Done: x.done, Part: x.part})
		b.is(x.stays, x.stays, 0)
	}
}

// P6.1: behind what stays acts go on as ever.
func TestActsBehindStay(t *testing.T) {
	for name, row := range rows() {
		made := start(t, "abc")
		row(made)
		for done := -1; done <= made.f.Acts()+1; done++ {
			for part := -1; part <= 4; part++ {
				b := made.copied()
				b.stay(file.Choice{Done: done, Part: part})
				stays := b.f.Bytes()
				b.append("mn", "o")
				b.is(stays+"mno", stays, 1)
				b.cut(1)
				b.is((stays + "mno")[:1], stays, 2)
				b.append("pq")
				b.stay(file.Choice{Part: 2})
				b.is(stays+"mn", stays+"mn", 0)
				b.append("r")
				b.sync()
				b.is(stays+"mnr", stays+"mnr", 0)
			}
		}
		if t.Failed() {
			t.Fatal(name)
		}
	}
}

// P6.1, P6.2: all short rows of calls are what the words say, and so is what stays of them.
func TestShortRows(t *testing.T) {
	calls := []func(b *both){
		func(b *both) { b.append("x") },
		func(b *both) { b.append("uv", "", "w") },
		func(b *both) { b.append("") },
		func(b *both) { b.cut(0) },
		func(b *both) { b.cut(2) },
		func(b *both) { b.cut(b.f.Len() - 1) },
		func(b *both) { b.cut(b.f.Len()) },
		func(b *both) { b.sync() },
		func(b *both) { b.stay(file.Choice{Done: 1, Part: 1}) },
	}
	var from func(b *both, many int)
	from = func(b *both, many int) {
		for done := -1; done <= b.f.Acts()+1; done++ {
			for part := range 5 {
				b.copied().stay(file.Choice{Done: done, Part: part - 1})
			}
		}
		if many == 0 || t.Failed() {
			return
		}
		for _, call := range calls {
			next := b.copied()
			call(next)
			from(next, many-1)
		}
	}
	from(start(t, ""), 4)
	from(start(t, "ab"), 4)
}

// P6.1 to P6.3: long rows of any calls, and copies that go on by themselves, are what the words say.
func TestLongRows(t *testing.T) {
	n := numbers(2)
	for range 300 {
		l := []*both{start(t, n.text(n.below(20)))}
		for range 150 {
			i := n.below(len(l))
			if n.below(15) == 0 {
				c := l[i].copied()
				if len(l) < 4 {
					l = append(l, c)
				} else {
					l[n.below(len(l))] = c
				}
			}
			n.any(l[i])
			for _, b := range l {
				b.alike()
			}
			if t.Failed() {
				return
			}
		}
	}
}

// P6.2: reads at each place, of each number of bytes, of what is read, not of what is durable.
func TestReadAt(t *testing.T) {
	for _, row := range rows() {
		b := start(t, "abc")
		row(b)
		many := b.f.Len()
		for at := -2; at <= many+2; at++ {
			for n := -2; n <= many+2; n++ {
				b.reads(at, n)
			}
		}
		for _, at := range edges(many) {
			for _, n := range edges(many) {
				b.reads(at, n)
			}
		}
		b.alike()
	}
	for _, x := range []struct {
		at, n int
		read  string
		e     api.Errno
	}{
		{0, 0, "", api.OK}, {0, 1, "a", api.OK}, {0, 6, "abcxyz", api.OK}, {0, 7, "abcxyz", api.OK}, {0, math.MaxInt, "abcxyz", api.OK},
		{2, 2, "cx", api.OK}, {5, 1, "z", api.OK}, {5, math.MaxInt, "z", api.OK}, {6, 0, "", api.OK}, {6, 1, "", api.OK}, {6, math.MaxInt, "", api.OK},
		{7, 0, "", api.ErrRange}, {7, -1, "", api.ErrRange}, {-1, 1, "", api.ErrRange}, {0, -1, "", api.ErrRange}, {6, -1, "", api.ErrRange},
		{math.MinInt, 0, "", api.ErrRange}, {math.MaxInt, math.MaxInt, "", api.ErrRange}, {0, math.MinInt, "", api.ErrRange},
	} {
		if s, e := example(t).f.ReadAt(x.at, x.n); s != x.read || e != x.e {
			t.Errorf("ReadAt(%d, %d) is %q, %d, not %q, %d", x.at, x.n, s, e, x.read, x.e)
		}
	}
	b := start(t, "")
	b.reads(0, 0)
	b.reads(0, 1)
	b.reads(1, 0)
	if s, e := b.f.ReadAt(0, 5); s != "" || e != api.OK {
		t.Errorf("ReadAt of no bytes is %q, %d", s, e)
	}
}

// P6.2: a copy is alike, and what is done to one of the two changes nothing of the other, whichever it is.
func TestCopy(t *testing.T) {
	changes := []func(b *both){
		func(b *both) { b.append("mnopqrst") },
		func(b *both) { b.append("m") },
		func(b *both) { b.cut(1) },
		func(b *both) { b.cut(0); b.append("mnopqrst") },
		func(b *both) { b.sync(); b.append("m") },
		func(b *both) { b.sync(); b.cut(1); b.append("mnopqrst"); b.sync() },
		func(b *both) { b.stay(file.Choice{}); b.append("mnopqrst") },
		func(b *both) { b.stay(file.Choice{Part: 1}); b.append("mnopqrst"); b.sync() },
		func(b *both) { b.stay(file.Choice{Done: 1}); b.cut(1); b.append("mnopqrst") },
		func(b *both) { b.stay(file.Choice{Done: 99}); b.append("m") },
	}
	for name, row := range rows() {
		for _, one := range changes {
			for _, other := range changes {
				b := start(t, "abc")
				row(b)
				c := b.copied()
				c.alike()
				one(c)
				b.alike()
				other(b)
				c.alike()
				// What stays is made of the acts, so that one that was changed in the other is seen there.
				for _, x := range []*both{b, c} {
					for done := range x.f.Acts() + 1 {
						x.copied().stay(file.Choice{Done: done, Part: 1})
					}
					x.alike()
				}
			}
		}
		if t.Failed() {
			t.Fatal(name)
		}
	}
	b := start(t, "")
	c := b.copied()
	c.append("a")
	b.is("", "", 0)
	b.append("bc")
	c.is("a", "", 1)
}

// P6.2: copies of copies, all of which go on, and of which the first one is as it was.
func TestCopiesOfCopies(t *testing.T) {
	l := []*both{start(t, "abc")}
	for i := range 40 {
		c := l[i].copied()
		if i%3 == 2 {
			c.cut(c.f.Len() / 2)
		} else {
			c.append(strings.Repeat(strconv.Itoa(i%10), i%7))
		}
		l = append(l, c)
	}
	for _, b := range l {
		b.alike()
		b.stay(file.Choice{Done: b.f.Acts() / 2, Part: 2})
		b.append("last")
	}
	for _, b := range l {
		b.alike()
	}
	l[0].is("abclast", "abc", 1)
}

// P6.3: what stays was read at some time since the last Sync, or is a beginning of an append that was next.
func TestStaysWhatWasRead(t *testing.T) {
	n := numbers(3)
	for range 400 {
		f := file.New(n.text(n.below(8)))
		was := []string{f.Bytes()}
		for range n.below(30) {
			switch n.below(12) {
			case 0:
				f.Sync()
				was = nil
			case 1, 2, 3:
				f.Cut(n.below(f.Len() + 1))
			default:
				f.Append(n.text(n.below(4)), n.text(n.below(4)))
			}
			was = append(was, f.Bytes())
		}
		for range 30 {
			c, g := n.choice(f.Acts()), f.Copy()
			g.Stay(c)
			if !wasRead(was, g.Bytes()) || g.Durable() != g.Bytes() || g.Acts() != 0 {
				t.Fatalf("of the choice %d stays %q, %q, %d; there were %q", c, g.Bytes(), g.Durable(), g.Acts(), was)
			}
		}
		g := f.Copy()
		g.Stay(file.Choice{Done: f.Acts() + n.below(3), Part: n.below(3) - 1})
		if g.Bytes() != f.Bytes() || g.Durable() != f.Bytes() {
			t.Fatalf("of all stays %q, not %q", g.Bytes(), f.Bytes())
		}
	}
}

// wasRead tells whether s was read, or lies between what was read and what was read next, if that was longer.
func wasRead(was []string, s string) bool {
	for i, read := range was {
		if s == read {
			return true
		}
		if i > 0 && strings.HasPrefix(read, was[i-1]) && strings.HasPrefix(read, s) && strings.HasPrefix(s, was[i-1]) {
			return true
		}
	}
	return false
}

// P6.3: without cuts, what stays is a beginning of what is read, and has all that was durable; of a greater choice no less stays.
func TestStaysWithoutCuts(t *testing.T) {
	n := numbers(4)
	for range 200 {
		f := file.New(n.text(n.below(8)))
		f.Append(n.text(n.below(8)))
		f.Sync()
		for range n.below(10) {
			f.Append(n.text(n.below(4)), n.text(n.below(4)))
		}
		last := len(f.Durable())
		for done := range f.Acts() + 3 {
			for part := -2; part <= 8; part++ {
				g := f.Copy()
				g.Stay(file.Choice{Done: done, Part: part})
				s := g.Bytes()
				if !strings.HasPrefix(f.Bytes(), s) || !strings.HasPrefix(s, f.Durable()) {
					t.Fatalf("of %d and %d stays %q, of %q, of which %q was durable", done, part, s, f.Bytes(), f.Durable())
				}
				if len(s) < last {
					t.Fatalf("of %d and %d stays %q, which is less than of a smaller choice", done, part, s)
				}
				last = len(s)
			}
		}
		if last != f.Len() {
			t.Fatalf("of great choices stay %d bytes, not %d", last, f.Len())
		}
	}
}

// P6.2, P1: each call of a file that is none, whatever else is wrong.
func TestNoFile(t *testing.T) {
	var f *file.File
	errnos := map[string]api.Errno{
		"Append()":      f.Append(),
		"Append(empty)": f.Append(""),
		"Append(a)":     f.Append("a", "b"),
		"Sync()":        f.Sync(),
	}
	for _, n := range edges(0) {
		errnos["Cut("+strconv.Itoa(n)+")"] = f.Cut(n)
		for _, m := range edges(0) {
			errnos["Stay("+strconv.Itoa(n)+", "+strconv.Itoa(m)+")"] = f.Stay(file.Choice{Done: n, Part: m})
			s, e := f.ReadAt(n, m)
			errnos["ReadAt("+strconv.Itoa(n)+", "+strconv.Itoa(m)+")"] = e
			if s != "" {
				t.Errorf("ReadAt(%d, %d) of no file is %q", n, m, s)
			}
		}
	}
	for call, e := range errnos {
		if e != api.ErrNil {
			t.Errorf("%s of no file is %d", call, e)
		}
	}
	if f.Len() != 0 || f.Bytes() != "" || f.Durable() != "" || f.Acts() != 0 || f.Copy() != nil {
		t.Errorf("no file is %d, %q, %q, %d, %v", f.Len(), f.Bytes(), f.Durable(), f.Acts(), f.Copy())
	}
}

// P1: a file that nobody made has no bytes, and goes on as one that New made.
func TestZeroFile(t *testing.T) {
	b := &both{t: t, f: &file.File{}, calls: "File{}"}
	b.alike()
	b.copied().append("a")
	b.cut(1)
	b.cut(0)
	b.stay(file.Choice{Done: 3, Part: 3})
	b.sync()
	b.is("", "", 0)
	b.append("ab", "c")
	b.stay(file.Choice{Part: 2})
	b.is("ab", "ab", 0)
}

// A list that is handed in is not changed, nor kept: to change it changes nothing of the file.
func TestListsAreNotKept(t *testing.T) {
	l := []string{"cd", "ef", "behind"}
	b := start(t, "ab")
	b.append(l[:2]...)
	if !slices.Equal(l, []string{"cd", "ef", "behind"}) {
		t.Errorf("what was handed in is %q now", l)
	}
	l[0], l[1] = "xxxx", "yyyy"
	b.is("abcdef", "ab", 1)
	b.stay(file.Choice{Part: 3})
	b.is("abcde", "abcde", 0)
}

// What was answered stays as it was, whatever is done behind it.
func TestAnswersAreKept(t *testing.T) {
	b := start(t, "abcdef")
	b.append("gh")
	read, durable := b.f.Bytes(), b.f.Durable()
	piece, _ := b.f.ReadAt(1, 6)
	b.cut(1)
	b.append("uvwxyz")
	b.sync()
	b.cut(0)
	b.append("123456789")
	b.stay(file.Choice{Done: 1, Part: 4})
	if read != "abcdefgh" || durable != "abcdef" || piece != "bcdefg" {
		t.Errorf("what was answered is %q, %q, %q now", read, durable, piece)
	}
}

// A long row of small appends, with what is asked in between, ends soon enough, and so does one with a Sync each time.
func TestManyActs(t *testing.T) {
	const many = 200000
	for _, synced := range []bool{false, true} {
		f := file.New("")
		for i := range many {
			f.Append("0123", "4567")
			if f.Len() != 8*(i+1) {
				t.Fatalf("Len is %d behind %d appends", f.Len(), i+1)
			}
			if s, e := f.ReadAt(8*i+2, 100); s != "234567" || e != api.OK {
				t.Fatalf("ReadAt behind %d appends is %q, %d", i+1, s, e)
			}
			if synced {
				f.Sync()
			}
		}
		acts := many
		if synced {
			acts = 0
		}
		if f.Acts() != acts || f.Bytes() != strings.Repeat("01234567", many) {
			t.Errorf("Acts are %d, Len is %d", f.Acts(), f.Len())
		}
		f.Stay(file.Choice{Done: many / 2, Part: 3})
		if !synced && f.Bytes() != strings.Repeat("01234567", many/2)+"012" {
			t.Errorf("of half of the acts %d bytes stay", f.Len())
		}
	}
}
