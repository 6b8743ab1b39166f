package trie_test

import (
	"maps"
	"math"
	"slices"
	"strconv"
	"strings"
	"testing"

	"cedilla/api"
	"cedilla/trie"
)

// of is an entry with a weight.
func of(w string, weight uint32) api.Entry { return api.Entry{Word: w, Weight: weight} }

// gone is an entry of a word that is gone.
func gone(w string) api.Entry { return api.Entry{Word: w, Gone: true} }

// heavy is one that is gone, and has a weight that does not count.
func heavy(w string, weight uint32) api.Entry { return api.Entry{Word: w, Weight: weight, Gone: true} }

// words is a trie as the chapter's words tell it: of each word its entry.
type words map[string]api.Entry

// put makes e the entry of its word, if that is one.
func (w words) put(e api.Entry) api.Errno {
	if len(e.Word) < 1 || len(e.Word) > 255 {
		return api.ErrInvalid
	}
	if e.Gone {
		e.Weight = 0
	}
	w[e.Word] = e
	return api.OK
}

// under is the entries whose words begin so, by rising words.
func (w words) under(begin string) []api.Entry {
	var l []api.Entry
	for x, e := range w {
		if strings.HasPrefix(x, begin) {
			l = append(l, e)
		}
	}
	slices.SortFunc(l, func(a, b api.Entry) int { return byBytes(a.Word, b.Word) })
	return l
}

func (w words) size() int {
	n := 0
	for x := range w {
		n += len(x) + 8
	}
	return n
}

// nodes is all beginnings of words, and the row of no bytes, each with the bytes that lead on, rising.
func (w words) nodes() map[string][]byte {
	ways := map[string][]byte{"": nil}
	for x := range w {
		for i := range len(x) {
			ways[x[:i]] = append(ways[x[:i]], x[i])
		}
		// The word itself is one too, also if nothing goes on behind it.
		ways[x] = append(ways[x], ""...)
	}
	for row, l := range ways {
		slices.Sort(l)
		ways[row] = slices.Compact(l)
	}
	return ways
}

// byBytes is below 0, 0 or above 0 as a is less than b, is b, or is not less, as chapter 4 tells it.
func byBytes(a, b string) int {
	for i := 0; i < len(a) && i < len(b); i++ {
		if a[i] != b[i] {
			return int(a[i]) - int(b[i])
		}
	}
	return len(a) - len(b)
}

// both is a trie, the same by the words, and what was called of it.
type both struct {
	t     *testing.T
	x     *trie.Trie
	w     words
	calls string
}

// start is both, of a trie into which New put these.
func start(t *testing.T, l ...api.Entry) *both {
	b := &both{t: t, x: trie.New(l...), w: words{}, calls: "New(" + told(l...) + ")"}
	for _, e := range l {
		b.w.put(e)
	}
	return b
}

// copied is a copy of both.
func (b *both) copied() *both {
	return &both{t: b.t, x: b.x.Copy(), w: maps.Clone(b.w), calls: b.calls + " Copy()"}
}

// put puts e, and finds out whether the answer is what the words say.
func (b *both) put(e api.Entry) {
	b.t.Helper()
	b.calls += " Put(" + told(e) + ")"
	if got, want := b.x.Put(e), b.w.put(e); got != want {
		b.t.Fatalf("%s: %d, not %d", b.told(), got, want)
	}
}

// puts puts all of them, and finds out behind each whether the trie is what the words say.
func (b *both) puts(l ...api.Entry) {
	b.t.Helper()
	for _, e := range l {
		b.put(e)
		b.alike()
	}
}

// alike finds out whether the trie is in all that can be asked what the words say.
func (b *both) alike() {
	b.t.Helper()
	b.counts()
	nodes := b.w.nodes()
	rows := append(slices.Collect(maps.Keys(nodes)), asked()...)
	for _, row := range rows {
		b.gets(row)
		b.under(row)
		b.gets(row + "\x00")
		b.under(row + "\xff")
	}
	b.nodes(b.x.Root(), nodes)
	b.walked()
}

// counts finds out whether Len, Size and All are what the words say.
func (b *both) counts() {
	b.t.Helper()
	if n := b.x.Len(); n != len(b.w) {
		b.t.Fatalf("%s: Len is %d, not %d", b.told(), n, len(b.w))
	}
	if n := b.x.Size(); n != b.w.size() {
		b.t.Fatalf("%s: Size is %d, not %d", b.told(), n, b.w.size())
	}
	if l := b.x.All(); !slices.Equal(l, b.w.under("")) {
		b.t.Fatalf("%s: All is %s, not %s", b.told(), told(l...), told(b.w.under("")...))
	}
}

// gets finds out whether Get of a text, a word or not, is what the words say.
func (b *both) gets(w string) {
	b.t.Helper()
	want, there := b.w[w]
	if e, is := b.x.Get(w); e != want || is != there {
		b.t.Fatalf("%s: Get(%s) is %s, %t, not %s, %t", b.told(), short(w), told(e), is, told(want), there)
	}
}

// under finds out whether Under of a beginning is what the words say.
func (b *both) under(begin string) {
	b.t.Helper()
	if l, want := b.x.Under(begin), b.w.under(begin); !slices.Equal(l, want) {
		b.t.Fatalf("%s: Under(%s) is %s, not %s", b.told(), short(begin), told(l...), told(want...))
	}
}

// nodes finds out whether the nodes from root on are those that the words say.
func (b *both) nodes(root trie.Node, nodes map[string][]byte) {
	b.t.Helper()
	for row, ways := range nodes {
		n := b.at(root, row)
		if l := n.Bytes(); !slices.Equal(l, ways) {
			b.t.Fatalf("%s: Bytes behind %s are %q, not %q", b.told(), short(row), l, ways)
		}
		b.value(n, row)
		for i := range 256 {
			_, there := nodes[row+string([]byte{byte(i)})]
			if next, is := n.Step(byte(i)); is != there || !is && next != (trie.Node{}) {
				b.t.Fatalf("%s: Step %d behind %s is %t, not %t", b.told(), i, short(row), is, there)
			}
		}
	}
}

// at is the node to which the row leads.
func (b *both) at(n trie.Node, row string) trie.Node {
	b.t.Helper()
	for i := range len(row) {
		next, is := n.Step(row[i])
		if !is {
			b.t.Fatalf("%s: there is no node %s", b.told(), short(row[:i+1]))
		}
		n = next
	}
	return n
}

// value finds out whether a node's value is what the words say of its row.
func (b *both) value(n trie.Node, row string) {
	b.t.Helper()
	e, there := b.w[row]
	if weight, gone, is := n.Value(); weight != e.Weight || gone != e.Gone || is != there {
		b.t.Fatalf("%s: Value of %s is %d, %t, %t, not %s, %t", b.told(), short(row), weight, gone, is, told(e), there)
	}
}

// walked finds out whether a walk from the root finds all entries, each once, by rising words.
func (b *both) walked() {
	b.t.Helper()
	if l, want := walk(b.x.Root(), ""), b.w.under(""); !slices.Equal(l, want) {
		b.t.Fatalf("%s: a walk finds %s, not %s", b.told(), told(l...), told(want...))
	}
}

// walk is the entries that are found from a node on by Value, Bytes and Step, in this order.
func walk(n trie.Node, row string) []api.Entry {
	var l []api.Entry
	if weight, gone, is := n.Value(); is {
		l = append(l, api.Entry{Word: row, Weight: weight, Gone: gone})
	}
	for _, b := range n.Bytes() {
		next, _ := n.Step(b)
		l = append(l, walk(next, row+string([]byte{b}))...)
	}
	return l
}

// told is the calls, of many the last ones.
func (b *both) told() string {
	if len(b.calls) > 500 {
		return ".." + b.calls[len(b.calls)-500:]
	}
	return b.calls
}

// told is entries as a text.
func told(l ...api.Entry) string {
	var s []string
	for i, e := range l {
		if i == 12 {
			s = append(s, ".. of "+strconv.Itoa(len(l)))
			break
		}
		if e.Gone {
			s = append(s, short(e.Word)+" gone "+strconv.Itoa(int(e.Weight)))
		} else {
			s = append(s, short(e.Word)+" "+strconv.Itoa(int(e.Weight)))
		}
	}
	return strings.Join(s, ", ")
}

// short is a text, of a long one its beginning and its size.
func short(s string) string {
	if len(s) > 12 {
		return strconv.QuoteToASCII(s[:12]) + ".. of " + strconv.Itoa(len(s))
	}
	return strconv.QuoteToASCII(s)
}

// long is a text of so many bytes.
func long(size int) string { return strings.Repeat("w", size) }

// asked is texts that are asked for, whether they are there or not.
func asked() []string {
	return []string{"", "a", "b", "ab", "abc", "t", "te", "tea", "teas", "ten", "A", "\x00", "\x01", "\x7f", "\x80", "\xfe", "\xff", "\xff\xff",
		"\xc3\xa9", long(254), long(255), long(256), long(1000)}
}

// numbers makes the same row of numbers in each run.
type numbers uint64

func (n *numbers) below(most int) int {
	*n = *n*6364136223846793005 + 1442695040888963407
	return int(*n>>33) % most
}

// someBytes are those at which orders that are not by bytes go wrong.
const someBytes = "\x00\x01ab\x7f\x80\xff"

// text is a text of some bytes, so that texts often share a beginning, or are the same.
func (n *numbers) text(size int) string {
	b := make([]byte, size)
	for i := range b {
		b[i] = someBytes[n.below(len(someBytes))]
	}
	return string(b)
}

// one is an entry of some text, gone or not.
func (n *numbers) one(most int) api.Entry {
	l := weights()
	return api.Entry{Word: n.text(n.below(most + 1)), Weight: l[n.below(len(l))], Gone: n.below(3) == 0}
}

// weights are ordinary ones, and edges.
func weights() []uint32 {
	return []uint32{0, 1, 2, 7, 255, 256, 65535, 65536, 1<<31 - 1, 1 << 31, math.MaxUint32 - 1, math.MaxUint32}
}

// badWords are texts that may be no words.
func badWords() []string {
	return []string{"", long(256), long(257), strings.Repeat("\x00", 256), strings.Repeat("\xff", 300), long(512), long(100000)}
}

// is finds out whether a list is this one.
func is(t *testing.T, what string, got []api.Entry, want ...api.Entry) {
	t.Helper()
	if !slices.Equal(got, want) {
		t.Errorf("%s is %s, not %s", what, told(got...), told(want...))
	}
}

// P12.1 to P12.3: the examples of the chapter, by Put and by New.
func TestExamples(t *testing.T) {
	l := []api.Entry{of("tea", 3), of("ten", 4), of("to", 1), gone("tea"), of("inn", 9)}
	x := trie.New()
	for _, e := range l {
		if why := x.Put(e); why != api.OK {
			t.Errorf("Put of %s is %d", told(e), why)
		}
	}
	for _, x := range []*trie.Trie{x, trie.New(l...), x.Copy()} {
		if x.Len() != 4 || x.Size() != 43 {
			t.Errorf("Len and Size are %d and %d", x.Len(), x.Size())
		}
		is(t, "All", x.All(), of("inn", 9), gone("tea"), of("ten", 4), of("to", 1))
		is(t, "Under te", x.Under("te"), gone("tea"), of("ten", 4))
		root := x.Root()
		behindT, isT := root.Step('t')
		behindE, isE := behindT.Step('e')
		if string(root.Bytes()) != "it" || string(behindT.Bytes()) != "eo" || !isT || !isE {
			t.Errorf("Bytes are %q and %q, Steps %t and %t", root.Bytes(), behindT.Bytes(), isT, isE)
		}
		if weight, gone, is := behindE.Value(); weight != 0 || gone || is {
			t.Errorf("Value of te is %d, %t, %t", weight, gone, is)
		}
		if why := x.Put(of("", 1)); why != api.ErrInvalid {
			t.Errorf("Put of a word without bytes is %d", why)
		}
	}
}

// P12.1: New of no entries, of some, of such as are put twice, and of such whose words are none.
func TestNew(t *testing.T) {
	long255, long256 := of(long(255), 5), of(long(256), 6)
	for _, l := range [][]api.Entry{
		nil, {}, {of("a", 1)}, {gone("a")}, {heavy("a", 9)},
		{of("b", 1), of("a", 2)}, {of("a", 1), of("b", 2), of("c", 3)},
		{of("a", 1), of("a", 2)}, {of("a", 2), of("a", 2)}, {of("a", 1), gone("a")}, {gone("a"), of("a", 1)}, {of("a", 1), of("b", 1), of("a", 3), gone("b"), of("b", 0)},
		{of("", 1)}, {gone("")}, {of("", 1), of("a", 1)}, {of("a", 1), of("", 2), of("b", 3)}, {of("a", 1), long256}, {long256, long255, of("", 1)}, {long255, long256},
	} {
		b := start(t, l...)
		b.alike()
		b.puts(of("a", 77), of("", 78), of("zz", 79))
	}
}

// P12.1: what is handed to New is neither changed nor kept.
func TestNewKeepsNoList(t *testing.T) {
	l := []api.Entry{of("b", 1), heavy("a", 2), of("", 3), of("b", 4)}
	was := slices.Clone(l)
	x := trie.New(l...)
	is(t, "what was handed in", l, was...)
	for i := range l {
		l[i] = of("zzz", 9)
	}
	is(t, "All", x.All(), gone("a"), of("b", 4))
}

// P12.1: Put of words of each size, and of texts that are too short or too long.
func TestPutSizes(t *testing.T) {
	for size := range 600 {
		b := start(t, of("v", 1))
		b.put(of(long(size), 7))
		b.put(heavy(strings.Repeat("\xff", size), 8))
		b.counts()
		b.gets(long(size))
		b.gets(strings.Repeat("\xff", size))
	}
	b := start(t)
	b.puts(of(long(1), 1), of(long(255), 2), of(long(256), 3), of(long(254), 4), of("", 5))
	is(t, "All", b.x.All(), of(long(1), 1), of(long(254), 4), of(long(255), 2))
}

// P12.1, P1: what is no word is refused, and changes nothing, whatever is there.
func TestPutWrong(t *testing.T) {
	for _, b := range []*both{start(t), start(t, of("a", 1)), start(t, of(long(255), 1), gone("b"))} {
		for _, w := range badWords() {
			b.puts(of(w, 0), of(w, 5), heavy(w, 5))
			if e, is := b.x.Get(w); e != (api.Entry{}) || is {
				t.Errorf("Get(%s) is %s, %t", short(w), told(e), is)
			}
		}
	}
}

// P12.1: each byte is a word, and each pair of some of them.
func TestBytesOfAllKinds(t *testing.T) {
	b := start(t)
	for i := range 256 {
		// In an order that does not rise.
		c := byte(i * 37)
		b.put(of(string([]byte{c}), uint32(c)))
	}
	b.alike()
	all := b.x.All()
	for i := range 256 {
		if all[i] != of(string([]byte{byte(i)}), uint32(i)) {
			t.Errorf("at %d there is %s", i, told(all[i]))
		}
		if l := b.x.Root().Bytes(); len(l) != 256 || l[i] != byte(i) {
			t.Fatalf("Bytes are %q", l)
		}
	}
	for _, x := range someBytes {
		for _, y := range someBytes {
			b.put(gone(string([]byte{byte(x), byte(y)})))
		}
	}
	b.alike()
}

// P12.1, P12.2: words with the bytes 0 and 255, alone, in front, inside and behind.
func TestBytes0And255(t *testing.T) {
	l := []string{"\x00", "\x00\x00", "\x00\xff", "\xff", "\xff\x00", "\xff\xff", "a", "a\x00", "a\x00b", "a\xff", "a\xffb", "ab", "\x00a", "\xffa",
		strings.Repeat("\x00", 255), strings.Repeat("\xff", 255)}
	b := start(t)
	for i, w := range l {
		b.put(of(w, uint32(i)))
	}
	b.alike()
	is(t, "Under a", b.x.Under("a"), of("a", 6), of("a\x00", 7), of("a\x00b", 8), of("ab", 11), of("a\xff", 9), of("a\xffb", 10))
	is(t, "Under 0", b.x.Under("\x00"), of("\x00", 0), of("\x00\x00", 1), of(strings.Repeat("\x00", 255), 14), of("\x00a", 12), of("\x00\xff", 2))
}

// P12.1: a word that is the beginning of another one, and the other way round.
func TestBeginnings(t *testing.T) {
	for _, l := range [][]string{
		{"a", "ab", "abc"}, {"abc", "ab", "a"}, {"ab", "abc", "a"}, {"tea", "teas"}, {"teas", "tea"}, {"t", "tea"}, {"tea", "t"},
		{long(254), long(255)}, {long(255), long(254)}, {long(1), long(255)}, {long(255), long(1)}, {"\x00", "\x00\x00"}, {"\xff\xff", "\xff"},
	} {
		b := start(t)
		for i, w := range l {
			b.puts(of(w, uint32(10+i)))
		}
		for _, w := range l {
			b.puts(gone(w))
		}
	}
	// Of what is only a beginning there is no entry, nor of what goes on behind a word.
	x := trie.New(of("teas", 1), of("ten", 2))
	for _, w := range []string{"", "t", "te", "tea", "teasx", "teas\x00", "tenn", "n", "eas", "Teas"} {
		if e, is := x.Get(w); is || e != (api.Entry{}) {
			t.Errorf("Get(%s) is %s, %t", short(w), told(e), is)
		}
	}
}

// P12.1, P12.4: what is put over an entry, gone or not, is what counts; the others stay.
func TestPutOver(t *testing.T) {
	for _, first := range weights() {
		for _, second := range weights() {
			for _, over := range [][]api.Entry{
				{of("ab", first), of("ab", second)}, {of("ab", first), heavy("ab", second)}, {heavy("ab", first), of("ab", second)}, {heavy("ab", first), heavy("ab", second)},
			} {
				x := trie.New(of("a", 1), of("ac", 2), of("abc", 3))
				for _, e := range over {
					x.Put(e)
				}
				want := over[1]
				if want.Gone {
					want = gone("ab")
				}
				if e, is := x.Get("ab"); e != want || !is {
					t.Fatalf("behind %s Get is %s, %t", told(over...), told(e), is)
				}
				is(t, "All behind "+told(over...), x.All(), of("a", 1), want, of("abc", 3), of("ac", 2))
				if x.Len() != 4 || x.Size() != 1+2+3+2+4*8 {
					t.Fatalf("behind %s Len and Size are %d and %d", told(over...), x.Len(), x.Size())
				}
			}
		}
	}
}

// P12.1: a gone entry's weight counts as 0, wherever it is told.
func TestGoneWeight(t *testing.T) {
	for _, weight := range weights() {
		x := trie.New(heavy("ab", weight))
		x.Put(heavy("cd", weight))
		for _, x := range []*trie.Trie{x, x.Copy()} {
			is(t, "All", x.All(), gone("ab"), gone("cd"))
			is(t, "Under a", x.Under("a"), gone("ab"))
			if e, is := x.Get("cd"); e != gone("cd") || !is {
				t.Errorf("Get is %s, %t", told(e), is)
			}
			is(t, "a walk", walk(x.Root(), ""), gone("ab"), gone("cd"))
		}
	}
}

// P12.2: Len and Size, entry by entry, and behind a word was put again.
func TestLenAndSize(t *testing.T) {
	x := trie.New()
	steps := []struct {
		e         api.Entry
		len, size int
	}{
		{of("", 1), 0, 0}, {of("a", 1), 1, 9}, {of("a", 2), 1, 9}, {gone("a"), 1, 9}, {heavy("a", 3), 1, 9}, {of("a", 3), 1, 9},
		{of("abc", 1), 2, 20}, {gone("ab"), 3, 30}, {of("ab", 1), 3, 30}, {of(long(255), 1), 4, 293}, {of(long(256), 1), 4, 293}, {of(long(255), 1), 4, 293}, {gone("\x00"), 5, 302},
	}
	if x.Len() != 0 || x.Size() != 0 {
		t.Errorf("of no entries Len and Size are %d and %d", x.Len(), x.Size())
	}
	for _, s := range steps {
		x.Put(s.e)
		if x.Len() != s.len || x.Size() != s.size {
			t.Errorf("behind %s Len and Size are %d and %d, not %d and %d", told(s.e), x.Len(), x.Size(), s.len, s.size)
		}
	}
}

// P12.2: All and Under in order; Under of no bytes, of a whole word, of what begins nothing.
func TestUnder(t *testing.T) {
	banana, band, ban, bandana, can := of("banana", 0), of("band", 5), gone("ban"), of("bandana", 3), of("can", 4)
	x := trie.New(banana, band, ban, bandana, can)
	all := []api.Entry{ban, banana, band, bandana, can}
	is(t, "All", x.All(), all...)
	for begin, want := range map[string][]api.Entry{
		"": all, "b": all[:4], "ba": all[:4], "ban": all[:4], "bana": {banana}, "banana": {banana}, "bananas": nil, "band": {band, bandana}, "banda": {bandana},
		"bandana": {bandana}, "c": {can}, "can": {can}, "cane": nil, "a": nil, "n": nil, "\x00": nil, "\xff": nil, "bb": nil, "ban\x00": nil, "B": nil,
		long(255): nil, long(256): nil, long(100000): nil,
	} {
		is(t, "Under("+short(begin)+")", x.Under(begin), want...)
	}
	if l := trie.New().Under(""); len(l) != 0 {
		t.Errorf("of no entries Under is %s", told(l...))
	}
	if l := trie.New().All(); len(l) != 0 {
		t.Errorf("of no entries All is %s", told(l...))
	}
}

// P12.2: a copy is alike, and what is put into the one or the other behind it is not in both.
func TestCopy(t *testing.T) {
	for _, l := range [][]api.Entry{nil, {of("a", 1)}, {of("ab", 1), gone("abc"), of("b", 2)}, {of(long(255), 1), of(long(254), 2)}} {
		b := start(t, l...)
		c := b.copied()
		c.alike()
		b.puts(of("ab", 50), of("new", 51), gone("b"))
		c.alike()
		c.puts(of("ab", 60), of("news", 61), of("b", 62), gone("a"))
		b.alike()
		// A copy of a copy.
		d := c.copied()
		c.puts(of("x", 70), gone("ab"))
		d.puts(of("y", 80), of("ab", 81))
		for _, x := range []*both{b, c, d} {
			x.alike()
		}
	}
}

// P12.2: many copies, each with its own Put behind it; each stays as it was then.
func TestManyCopies(t *testing.T) {
	n := numbers(3)
	b := start(t)
	copies := []*both{b}
	for range 200 {
		c := copies[n.below(len(copies))]
		c.put(n.one(4))
		copies = append(copies, c.copied())
	}
	for _, c := range copies {
		c.alike()
	}
}

// P12.2, P12.3, P1: of a trie that is none.
func TestNoTrie(t *testing.T) {
	var x *trie.Trie
	for _, w := range append(badWords(), "a", "tea") {
		for _, e := range []api.Entry{of(w, 1), gone(w), heavy(w, 1)} {
			if why := x.Put(e); why != api.ErrNil {
				t.Errorf("Put(%s) is %d", told(e), why)
			}
		}
		if e, is := x.Get(w); e != (api.Entry{}) || is {
			t.Errorf("Get(%s) is %s, %t", short(w), told(e), is)
		}
		if l := x.Under(w); len(l) != 0 {
			t.Errorf("Under(%s) is %s", short(w), told(l...))
		}
	}
	if x.Len() != 0 || x.Size() != 0 || len(x.All()) != 0 {
		t.Errorf("Len, Size and All are %d, %d and %s", x.Len(), x.Size(), told(x.All()...))
	}
	if c := x.Copy(); c != nil {
		t.Errorf("Copy is a trie, of %s", told(c.All()...))
	}
	if n := x.Root(); n != (trie.Node{}) {
		t.Error("Root is not the zero node")
	}
	isNothing(t, "the root of no trie", x.Root())
}

// isNothing finds out whether a node has neither a value nor ways on.
func isNothing(t *testing.T, what string, n trie.Node) {
	t.Helper()
	if weight, gone, is := n.Value(); weight != 0 || gone || is {
		t.Errorf("Value of %s is %d, %t, %t", what, weight, gone, is)
	}
	if l := n.Bytes(); len(l) != 0 {
		t.Errorf("Bytes of %s are %q", what, l)
	}
	for b := range 256 {
		if next, is := n.Step(byte(b)); next != (trie.Node{}) || is {
			t.Errorf("Step %d of %s is %t", b, what, is)
		}
	}
}

// P12.3: the zero node, which is no trie's, has nothing; the root of an empty trie has nothing either, and is there.
func TestNodesOfNothing(t *testing.T) {
	isNothing(t, "the zero node", trie.Node{})
	isNothing(t, "an empty trie's root", trie.New().Root())
	isNothing(t, "an empty trie's root", trie.New(of("", 1), of(long(256), 1)).Root())
	if trie.New().Root() == (trie.Node{}) {
		t.Error("an empty trie's root is the zero node")
	}
	next, _ := trie.New(of("a", 1)).Root().Step('b')
	isNothing(t, "a node that is not there", next)
}

// P12.1 to P12.3, P1: a trie that New did not make has no entries, and takes some.
func TestZeroTrie(t *testing.T) {
	var zero trie.Trie
	b := &both{t: t, x: &zero, w: words{}, calls: "zero"}
	b.alike()
	if zero.Root() == (trie.Node{}) {
		t.Error("its root is the zero node")
	}
	b.copied().puts(of("b", 1))
	b.alike()
	b.puts(of("a", 1), of("", 2), gone("ab"), of("a", 3))
}

// P12.3: nodes with values, with ways on, with both; Step by bytes that lead somewhere, and by all others.
func TestNodes(t *testing.T) {
	b := start(t, of("tea", 3), of("teas", 4), gone("te"), of("to", 0), heavy("\x00", 7), of("\xff\x00", math.MaxUint32), of("\xff", 1))
	b.alike()
	for row, want := range map[string]struct {
		weight   uint32
		gone, is bool
		ways     string
	}{
		"": {0, false, false, "\x00t\xff"}, "t": {0, false, false, "eo"}, "te": {0, true, true, "a"}, "tea": {3, false, true, "s"}, "teas": {4, false, true, ""},
		"to": {0, false, true, ""}, "\x00": {0, true, true, ""}, "\xff": {1, false, true, "\x00"}, "\xff\x00": {math.MaxUint32, false, true, ""},
	} {
		n := b.at(b.x.Root(), row)
		weight, gone, is := n.Value()
		if weight != want.weight || gone != want.gone || is != want.is || string(n.Bytes()) != want.ways {
			t.Errorf("%s has %d, %t, %t and %q", short(row), weight, gone, is, n.Bytes())
		}
	}
	// A node is asked again, and from one node several others are stepped to.
	te := b.at(b.x.Root(), "te")
	a, _ := te.Step('a')
	if next, is := te.Step('b'); is || next != (trie.Node{}) {
		t.Error("teb is there")
	}
	again, is := te.Step('a')
	if !is || again != a {
		t.Error("tea is not there twice")
	}
	s, is := a.Step('s')
	if _, _, has := s.Value(); !is || !has {
		t.Error("teas is not there")
	}
}

// P12.3: nodes asked behind later Puts are those of the trie as it was when its root was taken.
func TestNodesBehindPuts(t *testing.T) {
	for _, l := range [][]api.Entry{nil, {of("a", 1)}, {of("ab", 1), of("abc", 2), gone("b")}, {of("tea", 3), of("ten", 4), of("to", 1), gone("tea"), of("inn", 9)}} {
		b := start(t, l...)
		was := b.copied()
		root, nodes := b.x.Root(), b.w.nodes()
		taken := map[string]trie.Node{}
		for row := range nodes {
			taken[row] = b.at(root, row)
		}
		later := []api.Entry{of("a", 50), gone("abc"), of("b", 51), of("abcd", 52), of("t", 53), of("", 54), of("tea", 55), of("\x00", 56), of(long(255), 57)}
		for _, e := range later {
			b.put(e)
			was.nodes(root, nodes)
			is(t, "a walk from a root of then", walk(root, ""), was.w.under("")...)
			for row, n := range taken {
				was.value(n, row)
				if got := n.Bytes(); !slices.Equal(got, nodes[row]) {
					t.Errorf("Bytes of %s are %q, not %q", short(row), got, nodes[row])
				}
				is(t, "a walk from a node of then", walk(n, row), was.w.under(row)...)
			}
		}
		b.alike()
	}
}

// P12.4: the order in which words are put changes nothing.
func TestOrders(t *testing.T) {
	l := []api.Entry{of("a", 1), of("ab", 2), gone("abc"), of("b", 4), of("\x00", 5), of("\xff\xff", 6)}
	want := start(t, l...)
	want.alike()
	for order := range orders(len(l)) {
		x := trie.New()
		for _, i := range order {
			x.Put(l[i])
		}
		is(t, "All", x.All(), want.w.under("")...)
		is(t, "a walk", walk(x.Root(), ""), want.w.under("")...)
		if x.Len() != want.x.Len() || x.Size() != want.x.Size() {
			t.Errorf("Len and Size are %d and %d", x.Len(), x.Size())
		}
	}
}

// orders tells all orders of the first n numbers.
func orders(n int) func(yield func([]int) bool) {
	return func(yield func([]int) bool) {
		var rest func(order []int) bool
		rest = func(order []int) bool {
			if len(order) == n {
				return yield(order)
			}
			for i := range n {
				if !slices.Contains(order, i) && !rest(append(slices.Clone(order), i)) {
					return false
				}
			}
			return true
		}
		rest(nil)
	}
}

// P12.1 to P12.4: all short rows of Puts of a few entries, and of texts that are no words.
func TestShortRows(t *testing.T) {
	l := []api.Entry{of("a", 1), of("a", 2), heavy("a", 3), of("ab", 0), gone("ab"), of("b", 5), of("", 6), gone("ba"), of("\x00", 7)}
	rows := [][]api.Entry{nil}
	for range 4 {
		var longer [][]api.Entry
		for _, row := range rows {
			for _, e := range l {
				longer = append(longer, append(slices.Clone(row), e))
			}
		}
		rows = longer
		for _, row := range rows {
			b := start(t)
			for _, e := range row {
				b.put(e)
			}
			b.counts()
			b.walked()
			for _, w := range []string{"", "a", "ab", "b", "ba", "\x00", "abc", "c"} {
				b.gets(w)
				b.under(w)
			}
			is(t, "All of New("+told(row...)+")", trie.New(row...).All(), b.w.under("")...)
		}
	}
}

// P12.1 to P12.4: long rows of Puts, with copies of which each goes on by itself.
func TestLongRows(t *testing.T) {
	for seed := range 12 {
		n := numbers(100 + seed)
		b := start(t)
		most := 1 + seed
		for i := range 400 {
			b.put(n.one(most))
			if i%40 == 0 {
				c := b.copied()
				root, was := c.x.Root(), maps.Clone(c.w)
				for range 10 {
					c.put(n.one(most))
				}
				c.alike()
				is(t, "a walk from a root of then", walk(root, ""), was.under("")...)
			}
		}
		b.alike()
	}
}

// P12.2, P1: what a call answers is the caller's.
func TestAnswersAreTheCallers(t *testing.T) {
	b := start(t, of("a", 1), of("ab", 2), gone("b"), of("tea", 3))
	for range 2 {
		all, under, again := b.x.All(), b.x.Under("a"), b.x.All()
		bytes := b.x.Root().Bytes()
		for i := range all {
			all[i] = of("zzz", 99)
		}
		for i := range under {
			under[i] = of("zzz", 99)
		}
		for i := range bytes {
			bytes[i] = 'z'
		}
		_ = append(all[:1], of("y", 1))
		_ = append(bytes[:1], 'y')
		is(t, "another All", again, b.w.under("")...)
		b.alike()
	}
	// And it stays as it was, whatever is put.
	all, under, bytes := b.x.All(), b.x.Under("a"), b.x.Root().Bytes()
	b.puts(of("a", 7), of("aa", 8), gone("tea"), of("c", 9))
	is(t, "All of then", all, of("a", 1), of("ab", 2), gone("b"), of("tea", 3))
	is(t, "Under a of then", under, of("a", 1), of("ab", 2))
	if string(bytes) != "abt" {
		t.Errorf("Bytes of then are %q", bytes)
	}
}

// P1: what is asked changes nothing.
func TestAskingChangesNothing(t *testing.T) {
	b := start(t, of("ab", 2), gone("b"))
	for _, w := range append(asked(), badWords()...) {
		b.x.Get(w)
		b.x.Under(w)
		b.x.Copy().Put(of(w, 5))
		n, there := b.x.Root(), true
		for i := 0; i < len(w) && there; i++ {
			n, there = n.Step(w[i])
		}
	}
	b.alike()
}

// P12.1 to P12.4: a great many entries.
func TestManyEntries(t *testing.T) {
	x := trie.New()
	w := words{}
	n := numbers(7)
	for i := range api.MaxEntries {
		e := of(strconv.Itoa(n.below(1000000000)), uint32(i))
		x.Put(e)
		w.put(e)
	}
	want := w.under("")
	is(t, "All", x.All(), want...)
	is(t, "All of a copy", x.Copy().All(), want...)
	is(t, "a walk", walk(x.Root(), ""), want...)
	if x.Len() != len(w) || x.Size() != w.size() {
		t.Errorf("Len and Size are %d and %d", x.Len(), x.Size())
	}
	for row := range 10 {
		is(t, "Under", x.Under(strconv.Itoa(row)), w.under(strconv.Itoa(row))...)
	}
}

// P12.1, P12.2: many words of the greatest size, which share much, or nothing.
func TestLongWords(t *testing.T) {
	b := start(t)
	for i := range 255 {
		word := []byte(long(255))
		word[i] = 'v'
		b.put(of(string(word), uint32(i)))
		b.put(gone(strings.Repeat(string([]byte{byte(i)}), 255)))
	}
	b.counts()
	b.walked()
	for i := range 256 {
		b.gets(long(i))
		b.under(long(i))
		b.under(long(i) + "v")
	}
}
