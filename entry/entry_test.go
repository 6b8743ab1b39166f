package entry_test

import (
	"math"
	"slices"
	"strconv"
	"strings"
	"testing"

	"cedilla/api"
	"cedilla/entry"
)

// of is an entry with a weight.
func of(w string, weight uint32) api.Entry { return api.Entry{Word: w, Weight: weight} }

// gone is an entry of a word that is gone.
func gone(w string) api.Entry { return api.Entry{Word: w, Gone: true} }

// heavy is one that is gone, and has a weight that does not count.
func heavy(w string, weight uint32) api.Entry { return api.Entry{Word: w, Weight: weight, Gone: true} }

// isWord tells whether a text is a word, as chapter 4 tells it.
func isWord(s string) bool { return len(s) > 0 && len(s) < 256 }

// lessByWords tells whether a is less than b, as chapter 4 tells it.
func lessByWords(a, b string) bool {
	for i := 0; i < len(a) && i < len(b); i++ {
		if a[i] != b[i] {
			return int(a[i]) < int(b[i])
		}
	}
	return len(a) < len(b)
}

// number is the bytes of a number, as chapter 2 tells them.
func number(n uint64) string {
	if n < 248 {
		return string([]byte{byte(n)})
	}
	b := []byte{247}
	for ; n > 0; n /= 256 {
		b[0]++
		b = append(b, byte(n%256))
	}
	return string(b)
}

// long is the bytes of a number with more of them than it needs: m behind the first one.
func long(n uint64, m int) string {
	b := []byte{byte(247 + m)}
	for range m {
		b = append(b, byte(n%256))
		n /= 256
	}
	return string(b)
}

// numberAt is the number whose bytes begin s, how many these are, and the error, as chapter 2 tells it.
func numberAt(s string) (n uint64, size int, e api.Errno) {
	if s == "" {
		return 0, 0, api.ErrShort
	}
	if s[0] < 248 {
		return uint64(s[0]), 1, api.OK
	}
	size = int(s[0]) - 246
	if len(s) < size {
		return 0, 0, api.ErrShort
	}
	for i := size - 1; i > 0; i-- {
		n = n*256 + uint64(s[i])
	}
	if number(n) != s[:size] {
		return 0, 0, api.ErrForm
	}
	return n, size, api.OK
}

// putByWords is what Put answers, as the chapter's words tell it.
func putByWords(e api.Entry) (string, api.Errno) {
	switch {
	case !isWord(e.Word):
		return "", api.ErrInvalid
	case e.Gone:
		return "\x02" + e.Word, api.OK
	}
	return "\x01" + number(uint64(e.Weight)) + e.Word, api.OK
}

// getByWords is what Get answers, as the chapter's words tell it.
func getByWords(s string) (api.Entry, api.Errno) {
	if s == "" {
		return api.Entry{}, api.ErrShort
	}
	if s[0] != 1 && s[0] != 2 {
		return api.Entry{}, api.ErrKind
	}
	had := api.Entry{Word: s[1:], Gone: s[0] == 2}
	if s[0] == 1 {
		n, size, e := numberAt(s[1:])
		if e != api.OK {
			return api.Entry{}, e
		}
		if n > 4294967295 {
			return api.Entry{}, api.ErrRange
		}
		had.Word, had.Weight = s[1+size:], uint32(n)
	}
	if !isWord(had.Word) {
		return api.Entry{}, api.ErrInvalid
	}
	return had, api.OK
}

// checkByWords is what Check answers, as the chapter's words tell it.
func checkByWords(l []api.Entry) (int, api.Errno) {
	for i := range l {
		if !isWord(l[i].Word) {
			return i, api.ErrInvalid
		}
		if i > 0 && !lessByWords(l[i-1].Word, l[i].Word) {
			return i, api.ErrOrder
		}
	}
	return -1, api.OK
}

// findByWords is what Find answers, found by looking at each entry.
func findByWords(l []api.Entry, w string) (api.Entry, bool) {
	for _, e := range l {
		if e.Word == w {
			return counted(e), true
		}
	}
	return api.Entry{}, false
}

// withByWords is what With answers, entry by entry.
func withByWords(l []api.Entry, e ...api.Entry) []api.Entry {
	with := countedAll(l)
	for _, x := range e {
		var next []api.Entry
		for _, y := range with {
			if lessByWords(y.Word, x.Word) {
				next = append(next, y)
			}
		}
		next = append(next, counted(x))
		for _, y := range with {
			if lessByWords(x.Word, y.Word) {
				next = append(next, y)
			}
		}
		with = next
	}
	return with
}

// counted is an entry with the weight that it counts as.
func counted(e api.Entry) api.Entry {
	if e.Gone {
		return gone(e.Word)
	}
	return e
}

func countedAll(l []api.Entry) []api.Entry {
	var all []api.Entry
	for _, e := range l {
		all = append(all, counted(e))
	}
	return all
}

// numbers makes the same row of numbers in each run.
type numbers uint64

func (n *numbers) below(most int) int {
	*n = *n*6364136223846793005 + 1442695040888963407
	return int(*n>>33) % most
}

// someBytes are those at which orders that are not by bytes go wrong.
const someBytes = "\x00\x01\x02a\x7f\x80\xff"

// text is a text of some bytes, so that texts often share a beginning, or are the same.
func (n *numbers) text(size int) string {
	b := make([]byte, size)
	for i := range b {
		b[i] = someBytes[n.below(len(someBytes))]
	}
	return string(b)
}

// one is an entry of some word, gone or not.
func (n *numbers) one(size int) api.Entry {
	l := weights()
	return api.Entry{Word: n.text(size), Weight: l[n.below(len(l))], Gone: n.below(3) == 0}
}

// weights are ordinary ones, and edges.
func weights() []uint32 {
	return []uint32{0, 1, 2, 3, 100, 246, 247, 248, 249, 255, 256, 257, 300, 65535, 65536, 65537,
		1<<24 - 1, 1 << 24, 1<<31 - 1, 1 << 31, 1<<31 + 1, math.MaxUint32 - 1, math.MaxUint32}
}

// words are ordinary ones, and edges: of 1 and of 255 bytes, and of any bytes, such as begin an entry too.
func words() []string {
	l := []string{
		"a", "ab", "abc", "b", "tea", "naive", "na\xc3\xafve", " ", "\x00", "\x01", "\x02", "\x03", "\x01\x05a", "\x02a",
		"\x7f", "\x80", "\xf7", "\xf8", "\xf8\xf8", "\xf9\x2c\x01", "\xff", "\xff\xff", "a\x00", "\x00a",
		"\xef\xbf\xbf", "\xf0\x90\x80\x80", "\xed\xa0\x80",
	}
	for _, s := range []string{"x", "\x00", "\x01", "\x02", "\xff"} {
		for _, size := range []int{2, 247, 248, 254, 255} {
			l = append(l, strings.Repeat(s, size))
		}
	}
	n := numbers(1)
	for size := range 20 {
		l = append(l, n.text(1+size))
	}
	return l
}

// badWords are texts that may be no words.
func badWords() []string {
	return []string{"", strings.Repeat("x", 256), strings.Repeat("\x00", 256), strings.Repeat("\xff", 257), strings.Repeat("x", 100000)}
}

// lists are such as are lists: of none, of one, and of more entries, gone ones among them.
func lists() [][]api.Entry {
	l := [][]api.Entry{nil, {}, {of("a", 0)}, {gone("a")}, {heavy("a", 7)}, {of("", 1)}, {of("", 1), gone("a"), of(strings.Repeat("x", 256), 3)}}
	n := numbers(2)
	for range 300 {
		var some []api.Entry
		for range n.below(12) {
			some = append(some, n.one(n.below(4)))
		}
		l = append(l, listOf(some))
	}
	var every, many []api.Entry
	for _, w := range words() {
		every = append(every, of(w, uint32(len(w))))
	}
	for i := range 200 {
		many = append(many, api.Entry{Word: string([]byte{byte(1 + i/100), byte(2*(i%100) + 1)}), Weight: uint32(i), Gone: i%4 == 0})
	}
	return append(l, listOf(every), many)
}

// listOf is a list of these entries, of each word one of them, with the weights that they have.
func listOf(l []api.Entry) []api.Entry {
	l = slices.Clone(l)
	slices.SortFunc(l, func(a, b api.Entry) int {
		switch {
		case lessByWords(a.Word, b.Word):
			return -1
		case lessByWords(b.Word, a.Word):
			return 1
		}
		return 0
	})
	return slices.CompactFunc(l, func(a, b api.Entry) bool { return a.Word == b.Word })
}

// P5.1 to P5.3: the examples of the chapter, and that of the document.
func TestExamples(t *testing.T) {
	puts(t, of("ab", 5), "\x01\x05\x61\x62", api.OK)
	puts(t, gone("ab"), "\x02\x61\x62", api.OK)
	puts(t, of("tea", 3), "\x01\x03tea", api.OK)
	gets(t, "", api.Entry{}, api.ErrShort)
	gets(t, "\x03", api.Entry{}, api.ErrKind)
	gets(t, "\x01", api.Entry{}, api.ErrShort)
	gets(t, "\x02", api.Entry{}, api.ErrInvalid)
	if v := entry.Value(of("ab", 5)); v != 6 {
		t.Errorf("Value of ab, 5 is %d", v)
	}
	is(t, "ab", 0, gone("ab"), true)
	checks(t, []api.Entry{of("a", 1), of("c", 1), of("b", 1)}, 2, api.ErrOrder)
	with(t, []api.Entry{of("a", 1), gone("b"), of("c", 2)}, []api.Entry{of("a", 1), of("c", 2)}, gone("b"))
	with(t, []api.Entry{of("a", 1), of("b", 3), gone("c")}, []api.Entry{of("a", 1), of("c", 2)}, of("b", 3), gone("c"))
}

// P5.1: an entry's bytes, whatever its word and its weight.
func TestPut(t *testing.T) {
	for _, w := range words() {
		for _, n := range weights() {
			puts(t, of(w, n), "\x01"+number(uint64(n))+w, api.OK)
			// A gone entry's weight counts for nothing.
			puts(t, heavy(w, n), "\x02"+w, api.OK)
		}
	}
	puts(t, of("a", math.MaxUint32), "\x01\xfb\xff\xff\xff\xffa", api.OK)
	puts(t, of("a", 248), "\x01\xf8\xf8a", api.OK)
}

// P5.1: words of each size, and those that may not be.
func TestPutSizes(t *testing.T) {
	for size := range 600 {
		for _, e := range []api.Entry{of(strings.Repeat("w", size), 9), gone(strings.Repeat("w", size)), heavy(strings.Repeat("\x02", size), 9)} {
			want, why := putByWords(e)
			puts(t, e, want, why)
		}
	}
	for _, w := range badWords() {
		for _, n := range weights() {
			puts(t, of(w, n), "", api.ErrInvalid)
			puts(t, heavy(w, n), "", api.ErrInvalid)
		}
	}
}

// P5.1: the entry is had again, and its bytes end where they end.
func TestGet(t *testing.T) {
	for _, w := range words() {
		for _, n := range weights() {
			gets(t, "\x01"+number(uint64(n))+w, of(w, n), api.OK)
		}
		gets(t, "\x02"+w, gone(w), api.OK)
	}
	for size := range 600 {
		w := strings.Repeat("w", size)
		for _, s := range []string{"\x01\x05" + w, "\x01\xf9\x2c\x01" + w, "\x02" + w} {
			had, why := getByWords(s)
			gets(t, s, had, why)
		}
	}
	gets(t, "\x01\x05"+strings.Repeat("w", 256), api.Entry{}, api.ErrInvalid)
	gets(t, "\x01\xfb\xff\xff\xff\xff"+strings.Repeat("w", 256), api.Entry{}, api.ErrInvalid)
	gets(t, "\x02"+strings.Repeat("w", 256), api.Entry{}, api.ErrInvalid)
	gets(t, "\x01\x05", api.Entry{}, api.ErrInvalid)
	gets(t, "\x01\xf8\xf8", api.Entry{}, api.ErrInvalid)
}

// P5.1: a first byte that is neither 1 nor 2, whatever stands behind it.
func TestGetKinds(t *testing.T) {
	for b := range 256 {
		first := string([]byte{byte(b)})
		for _, rest := range []string{"", "\x05ab", "ab", "\xf8\x05ab", "\xf9\x01", strings.Repeat("w", 300)} {
			had, why := getByWords(first + rest)
			gets(t, first+rest, had, why)
			if b != 1 && b != 2 {
				gets(t, first+rest, api.Entry{}, api.ErrKind)
			}
		}
	}
}

// P5.1: entries that are cut anywhere.
func TestGetOfCut(t *testing.T) {
	for _, w := range words() {
		for _, e := range []api.Entry{of(w, 5), of(w, 300), of(w, math.MaxUint32), gone(w)} {
			s, _ := putByWords(e)
			head := len(s) - len(w)
			for cut := range len(s) {
				had, why := getByWords(s[:cut])
				gets(t, s[:cut], had, why)
				// Behind its weight, what is cut is another entry, of a beginning of the word.
				if cut > head {
					gets(t, s[:cut], api.Entry{Word: w[:cut-head], Weight: e.Weight, Gone: e.Gone}, api.OK)
				}
			}
			gets(t, s[:head], api.Entry{}, api.ErrInvalid)
		}
	}
	for _, s := range []string{"\x01", "\x01\xf8", "\x01\xf9\x01", "\x01\xfb\xff\xff\xff", "\x01\xff\xff\xff\xff\xff\xff\xff\xff"} {
		gets(t, s, api.Entry{}, api.ErrShort)
	}
}

// P5.1: weights with more bytes than they need; that is told ahead of their range, and of the word.
func TestGetOfLongNumbers(t *testing.T) {
	for _, n := range append(weights64(), 1<<32, 1<<40) {
		for m := len(number(n)); m <= 8; m++ {
			for _, w := range []string{"", "ab", strings.Repeat("w", 256)} {
				gets(t, "\x01"+long(n, m)+w, api.Entry{}, api.ErrForm)
			}
			gets(t, "\x01"+long(n, m)[:m], api.Entry{}, api.ErrShort)
		}
	}
	gets(t, "\x01\xf8\x05ab", api.Entry{}, api.ErrForm)
	gets(t, "\x01\xfc\xff\xff\xff\xff\x00ab", api.Entry{}, api.ErrForm)
}

// P5.1: weights above the greatest one; that is told ahead of the word.
func TestGetOfGreatNumbers(t *testing.T) {
	for _, n := range []uint64{1 << 32, 1<<32 + 1, 1<<32 + 5, 1 << 33, 1<<40 - 1, 1 << 40, 1 << 56, 1 << 63, math.MaxInt64, math.MaxUint64 - 1, math.MaxUint64, 5 << 32} {
		for _, w := range append(words(), badWords()...) {
			gets(t, "\x01"+number(n)+w, api.Entry{}, api.ErrRange)
		}
		s := "\x01" + number(n)
		for cut := 1; cut < len(s); cut++ {
			gets(t, s[:cut], api.Entry{}, api.ErrShort)
		}
	}
	gets(t, "\x01\xfb\xff\xff\xff\xffa", of("a", math.MaxUint32), api.OK)
	gets(t, "\x01\xfc\x00\x00\x00\x00\x01a", api.Entry{}, api.ErrRange)
}

// P5.1: of many short texts, Get is what the words say, and what it has is put just so.
func TestGetByWords(t *testing.T) {
	l := []string{""}
	for range 4 {
		for _, s := range l {
			for _, b := range []string{"\x00", "\x01", "\x02", "\x03", "\xf7", "\xf8", "\xfb", "\xfc", "\xff"} {
				l = append(l, s+b)
			}
		}
		slices.Sort(l)
		l = slices.Compact(l)
	}
	n := numbers(3)
	for range 20000 {
		l = append(l, "\x01"+string([]byte{byte(245 + n.below(11))})+n.text(n.below(12)))
	}
	for _, s := range l {
		had, why := getByWords(s)
		gets(t, s, had, why)
		if why == api.OK {
			puts(t, had, s, api.OK)
		}
	}
}

// P5.2: values of entries, and entries of values.
func TestValue(t *testing.T) {
	for _, w := range append(words(), badWords()...) {
		for _, n := range weights() {
			if v := entry.Value(of(w, n)); v != uint64(n)+1 {
				t.Errorf("Value of the weight %d is %d", n, v)
			}
			if v := entry.Value(heavy(w, n)); v != 0 {
				t.Errorf("Value of one that is gone, with the weight %d, is %d", n, v)
			}
			is(t, w, uint64(n)+1, of(w, n), true)
		}
		is(t, w, 0, gone(w), true)
		is(t, w, 1, of(w, 0), true)
		is(t, w, 1<<32, of(w, math.MaxUint32), true)
		for _, v := range []uint64{1<<32 + 1, 1<<32 + 2, 1 << 33, 1 << 40, 1<<63 - 1, 1 << 63, math.MaxUint64 - 1, math.MaxUint64} {
			is(t, w, v, api.Entry{}, false)
		}
	}
	if v := entry.Value(of("a", math.MaxUint32)); v != 1<<32 {
		t.Errorf("Value of the greatest weight is %d", v)
	}
	if v := entry.Value(api.Entry{}); v != 1 {
		t.Errorf("Value of the zero entry is %d", v)
	}
}

// P5.3: lists of words that may be, of each length.
func TestCheckLists(t *testing.T) {
	checks(t, nil, -1, api.OK)
	checks(t, []api.Entry{}, -1, api.OK)
	checks(t, []api.Entry{of("a", 0)}, -1, api.OK)
	checks(t, []api.Entry{{}}, 0, api.ErrInvalid)
	for _, l := range lists() {
		at, why := checkByWords(l)
		checks(t, l, at, why)
	}
	var l []api.Entry
	for _, w := range words() {
		l = append(l, heavy(w, 3))
	}
	l = listOf(l)
	for many := range len(l) + 1 {
		checks(t, l[:many], -1, api.OK)
	}
}

// P5.3: what is wrong, wherever it stands; the first such place counts, and there a word that may not be ahead of the order.
func TestCheckWrong(t *testing.T) {
	var l []api.Entry
	for i := range 20 {
		l = append(l, of("w"+strconv.Itoa(100+i), uint32(i)))
	}
	for i := range l {
		for _, bad := range badWords() {
			m := slices.Clone(l)
			m[i].Word = bad
			checks(t, m, i, api.ErrInvalid)
			checks(t, append(m, l...), i, api.ErrInvalid)
		}
		if i == 0 {
			continue
		}
		for j := range i {
			m := slices.Clone(l)
			m[i].Word = m[j].Word
			checks(t, m, i, api.ErrOrder)
			m[i].Gone = true
			checks(t, m, i, api.ErrOrder)
		}
		m := slices.Clone(l)
		m[i].Word = "w"
		checks(t, m, i, api.ErrOrder)
		m[i].Word = "a word that is less"
		m[len(m)-1].Word = ""
		if i < len(m)-1 {
			checks(t, m, i, api.ErrOrder)
		}
		m = slices.Clone(l)
		m[i-1], m[i] = m[i], m[i-1]
		checks(t, m, i, api.ErrOrder)
	}
	checks(t, []api.Entry{of("b", 1), of("", 1), of("a", 1)}, 1, api.ErrInvalid)
	checks(t, []api.Entry{of("", 1), of("", 1)}, 0, api.ErrInvalid)
	checks(t, []api.Entry{of("a", 1), of("a", 1)}, 1, api.ErrOrder)
	checks(t, []api.Entry{of("b", 1), of("c", 1), of("a", 1), of("", 1)}, 2, api.ErrOrder)
	checks(t, []api.Entry{of("ab", 1), of("a", 1)}, 1, api.ErrOrder)
	checks(t, []api.Entry{of("\x80", 1), of("\x7f", 1)}, 1, api.ErrOrder)
	// Each is behind the one two places ahead, and not behind the one ahead.
	checks(t, []api.Entry{of("a", 1), of("c", 1), of("b", 1), of("d", 1)}, 2, api.ErrOrder)
}

// P5.3: Check of any lists is what the words say.
func TestCheckByWords(t *testing.T) {
	n := numbers(4)
	for range 5000 {
		var l []api.Entry
		for range n.below(7) {
			l = append(l, n.one(n.below(3)))
		}
		at, why := checkByWords(l)
		checks(t, l, at, why)
	}
}

// P5.3: Find of each word of a list, and of such as are not in it.
func TestFind(t *testing.T) {
	asked := append(append([]string{"m", "\x01\x02", "zz"}, words()...), badWords()...)
	for _, l := range lists() {
		for i, e := range l {
			finds(t, l, e.Word, counted(e), true)
			without := slices.Delete(slices.Clone(l), i, i+1)
			finds(t, without, e.Word, api.Entry{}, false)
			for _, w := range []string{e.Word + "\x00", e.Word + "\xff", e.Word[:len(e.Word)/2], "\x00" + e.Word} {
				had, found := findByWords(l, w)
				finds(t, l, w, had, found)
			}
		}
		for _, w := range asked {
			had, found := findByWords(l, w)
			finds(t, l, w, had, found)
		}
	}
	finds(t, nil, "a", api.Entry{}, false)
	finds(t, nil, "", api.Entry{}, false)
	finds(t, []api.Entry{}, "a", api.Entry{}, false)
	finds(t, []api.Entry{of("a", 3), heavy("b", 4)}, "b", gone("b"), true)
	finds(t, []api.Entry{of("", 3)}, "", of("", 3), true)
}

// P5.3: one entry more, ahead of all, behind all, in between, and over one that is there.
func TestWithOne(t *testing.T) {
	for _, l := range lists() {
		if len(l) > 20 {
			l = l[:20]
		}
		for i, e := range l {
			without := slices.Delete(slices.Clone(l), i, i+1)
			with(t, countedAll(l), without, e)
			for _, x := range []api.Entry{of(e.Word, e.Weight+1), gone(e.Word), heavy(e.Word, 77)} {
				want := countedAll(l)
				want[i] = counted(x)
				with(t, want, l, x)
				with(t, want, without, x)
			}
		}
		for _, w := range []string{"", "\x00", "\x00\x00", "a", "aa", "\x80", "m", "\xff\xff\xff\xff\xff", strings.Repeat("\xff", 256), strings.Repeat("x", 255)} {
			for _, x := range []api.Entry{of(w, 8), gone(w), heavy(w, 8)} {
				with(t, withByWords(l, x), l, x)
			}
		}
	}
}

// P5.3: each place of a list of each length.
func TestWithPlaces(t *testing.T) {
	var l []api.Entry
	for i := range 60 {
		l = append(l, heavy(string([]byte{byte(2*i + 1)}), uint32(i)))
	}
	for many := range len(l) + 1 {
		some := l[:many]
		for i := range many + 1 {
			x := of(string([]byte{byte(2 * i)}), 5)
			want := slices.Insert(countedAll(some), i, x)
			with(t, want, some, x)
			with(t, want, some, of(x.Word, 6), gone(x.Word), x)
		}
	}
}

// P5.3: several in one call, of one word too, are put in one behind the other.
func TestWithMany(t *testing.T) {
	n := numbers(5)
	for _, l := range lists() {
		if len(l) > 20 {
			l = l[:20]
		}
		for range 8 {
			var e []api.Entry
			for range n.below(9) {
				e = append(e, n.one(n.below(3)))
			}
			want := withByWords(l, e...)
			with(t, want, l, e...)
			step := l
			for _, x := range e {
				step = entry.With(step, x)
			}
			if len(e) > 0 && !slices.Equal(step, want) {
				t.Errorf("With(%s, %s), one by one, is %s", told(l...), told(e...), told(step...))
			}
			for cut := range len(e) {
				with(t, want, entry.With(l, e[:cut]...), e[cut:]...)
			}
		}
		with(t, countedAll(l), l)
		with(t, countedAll(l), l, l...)
		with(t, countedAll(l), nil, l...)
		back := slices.Clone(l)
		slices.Reverse(back)
		with(t, countedAll(l), nil, back...)
		with(t, countedAll(l), nil, append(back, l...)...)
	}
	with(t, []api.Entry{of("a", 2)}, nil, of("a", 1), of("a", 2))
	with(t, []api.Entry{of("a", 1)}, nil, of("a", 2), gone("a"), of("a", 1))
	with(t, []api.Entry{gone("a"), of("b", 1)}, []api.Entry{of("a", 9)}, of("b", 2), of("a", 3), of("b", 1), gone("a"))
}

// P5.3: many of one word, between others, so that no way of ordering may lose which is last.
func TestWithManyOfOneWord(t *testing.T) {
	var e []api.Entry
	for i := range 3000 {
		e = append(e, of("w"+strconv.Itoa(i*7%11), uint32(i)))
	}
	for many := 0; many <= len(e); many += 1 + many/20 {
		with(t, withByWords(nil, e[:many]...), nil, e[:many]...)
	}
}

// P5.3: a list as long as one may be.
func TestLongList(t *testing.T) {
	var l, odd []api.Entry
	for i := range api.MaxEntries {
		e := of(strconv.Itoa(1000000+i), uint32(i))
		l = append(l, e)
		if i%2 == 1 {
			odd = append(odd, e)
		}
	}
	checks(t, l, -1, api.OK)
	var mixed []api.Entry
	for i := range l {
		mixed = append(mixed, l[i*70001%len(l)])
	}
	with(t, l, nil, mixed...)
	with(t, l, odd, mixed...)
	with(t, l, odd, l...)
	if live := entry.Live(l); !slices.Equal(live, l) {
		t.Error("Live of a list that lives is another one")
	}
	for _, e := range l {
		finds(t, l, e.Word, e, true)
		finds(t, l, e.Word+"\x00", api.Entry{}, false)
	}
}

// P5.3: empty lists are nil.
func TestEmptyListsAreNil(t *testing.T) {
	for _, l := range [][]api.Entry{nil, {}, make([]api.Entry, 0, 9)} {
		if x := entry.With(l); x != nil {
			t.Errorf("With of no entries is no nil, but has %d", len(x))
		}
		if x := entry.With(l, []api.Entry{}...); x != nil {
			t.Errorf("With of no entries is no nil, but has %d", len(x))
		}
		if x := entry.Live(l); x != nil {
			t.Errorf("Live of none is no nil, but has %d", len(x))
		}
	}
	if x := entry.Live([]api.Entry{gone("a"), heavy("b", 3)}); x != nil {
		t.Errorf("Live of gone ones is no nil, but has %d", len(x))
	}
}

// P5.3: Live leaves those that are not gone, in their order, as they are, whatever their words.
func TestLive(t *testing.T) {
	n := numbers(6)
	rows := lists()
	for range 500 {
		var l []api.Entry
		for range n.below(9) {
			l = append(l, n.one(n.below(3)))
		}
		rows = append(rows, l)
	}
	for _, l := range rows {
		var want []api.Entry
		for _, e := range l {
			if !e.Gone {
				want = append(want, e)
			}
		}
		if live := entry.Live(l); !slices.Equal(live, want) {
			t.Errorf("Live(%s) is %s, not %s", told(l...), told(live...), told(want...))
		}
	}
}

// P5.4: entries come back from their bytes, and from their values.
func TestEntriesComeBack(t *testing.T) {
	for _, w := range words() {
		for _, n := range weights() {
			for _, e := range []api.Entry{of(w, n), gone(w)} {
				s, why := entry.Put(e)
				if back, e2 := entry.Get(s); back != e || why != api.OK || e2 != api.OK {
					t.Errorf("%s comes back as %s from its bytes: %d, %d", told(e), told(back), why, e2)
				}
				if back, is := entry.Of(e.Word, entry.Value(e)); back != e || !is {
					t.Errorf("%s comes back as %s from its value", told(e), told(back))
				}
			}
		}
	}
	for _, v := range weights64() {
		if e, is := entry.Of("w", v); !is || entry.Value(e) != v {
			t.Errorf("the value %d comes back as %d", v, entry.Value(e))
		}
	}
}

// P5.4: a list with an entry has it, and all others as they were.
func TestListHasItsEntry(t *testing.T) {
	n := numbers(7)
	for _, l := range lists() {
		for range 5 {
			x := n.one(n.below(4))
			m := entry.With(l, x)
			finds(t, m, x.Word, counted(x), true)
			for _, e := range l {
				if e.Word != x.Word {
					finds(t, m, e.Word, counted(e), true)
				}
			}
			many := len(l) + 1
			if _, is := entry.Find(l, x.Word); is {
				many--
			}
			if len(m) != many {
				t.Errorf("With of %d entries has %d, not %d", len(l), len(m), many)
			}
			if at, why := entry.Check(m); why == api.ErrOrder {
				t.Errorf("With of a list is none, at %d", at)
			}
		}
	}
}

// P5.4: of two entries of two words it does not matter which is first; of one word the last one counts.
func TestOrderOfTwo(t *testing.T) {
	n := numbers(8)
	for _, l := range lists() {
		for range 5 {
			x, y := n.one(n.below(3)), n.one(n.below(3))
			xy, yx := entry.With(l, x, y), entry.With(l, y, x)
			if x.Word != y.Word && !slices.Equal(xy, yx) {
				t.Errorf("with %s, and %s: %s, the other way: %s", told(x), told(y), told(xy...), told(yx...))
			}
			if x.Word == y.Word && (!slices.Equal(xy, entry.With(l, y)) || !slices.Equal(yx, entry.With(l, x))) {
				t.Errorf("with %s, and %s: %s, the other way: %s", told(x), told(y), told(xy...), told(yx...))
			}
		}
	}
}

// What is handed in stays as it is, what stands behind it too; and to change an answer changes nothing of it.
func TestNothingIsChanged(t *testing.T) {
	n := numbers(9)
	for _, l := range lists() {
		var e []api.Entry
		for range n.below(6) {
			e = append(e, n.one(n.below(3)))
		}
		e = append(e, heavy("z", 5), of("a", 1), of("a", 2))
		behind := []api.Entry{of("behind", 1), of("more", 2), heavy("yet more", 3), {}, {}, {}, {}, {}, {}, {}, {}, {}}
		l, e = append(slices.Clone(l), behind...), append(slices.Clone(e), behind...)
		wasL, wasE := slices.Clone(l), slices.Clone(e)
		some, these := l[:len(l)-len(behind)], e[:len(e)-len(behind)]
		entry.Check(some)
		entry.Find(some, "a")
		answers := [][]api.Entry{entry.With(some, these...), entry.With(some), entry.With(nil, these...), entry.With(some[:0], these[:1]...), entry.Live(some), entry.Live(these)}
		for _, a := range answers {
			a = a[:cap(a)]
			for i := range a {
				a[i] = of("changed", 9)
			}
		}
		if !slices.Equal(l, wasL) || !slices.Equal(e, wasE) {
			t.Errorf("%s, and %s, are %s, and %s, now", told(wasL...), told(wasE...), told(l...), told(e...))
		}
	}
}

// An answer stays as it is when what was handed in is changed behind it.
func TestAnswersAreKept(t *testing.T) {
	l, e := []api.Entry{of("a", 1), of("b", 2), of("c", 3)}, []api.Entry{of("b", 4), gone("d")}
	with, plain, live := entry.With(l, e...), entry.With(l), entry.Live(l)
	for i := range l {
		l[i] = of("changed", 9)
	}
	for i := range e {
		e[i] = of("changed", 9)
	}
	if !slices.Equal(with, []api.Entry{of("a", 1), of("b", 4), of("c", 3), gone("d")}) {
		t.Errorf("With is %s now", told(with...))
	}
	if want := []api.Entry{of("a", 1), of("b", 2), of("c", 3)}; !slices.Equal(plain, want) || !slices.Equal(live, want) {
		t.Errorf("With and Live are %s, and %s, now", told(plain...), told(live...))
	}
}

// P1: of what is no list all calls end, and what is found is there.
func TestWhatIsNoList(t *testing.T) {
	n := numbers(10)
	for range 3000 {
		var l, e []api.Entry
		for range n.below(10) {
			l = append(l, n.one(n.below(3)))
		}
		for range n.below(4) {
			e = append(e, n.one(n.below(3)))
		}
		for _, x := range append(slices.Clone(l), e...) {
			had, is := entry.Find(l, x.Word)
			if is && (had.Word != x.Word || !slices.Contains(countedAll(l), had)) || !is && had != (api.Entry{}) {
				t.Errorf("Find(%s, %q) is %s, %v", told(l...), x.Word, told(had), is)
			}
		}
		with := entry.With(l, e...)
		for _, x := range with {
			if !slices.Contains(countedAll(append(slices.Clone(l), e...)), x) {
				t.Errorf("With(%s, %s) has %s", told(l...), told(e...), told(x))
			}
		}
	}
}

// weights64 is the weights as numbers, each also as a value.
func weights64() []uint64 {
	var l []uint64
	for _, n := range weights() {
		l = append(l, uint64(n))
	}
	return l
}

// told is entries as a text that can be read, of many the first ones.
func told(l ...api.Entry) string {
	var b strings.Builder
	for i, e := range l {
		if i == 20 {
			return b.String() + "and more"
		}
		b.WriteString(strconv.QuoteToASCII(e.Word) + " " + strconv.Itoa(int(e.Weight)))
		if e.Gone {
			b.WriteString(" gone")
		}
		b.WriteString("; ")
	}
	return b.String()
}

func puts(t *testing.T, e api.Entry, want string, why api.Errno) {
	t.Helper()
	if s, got := entry.Put(e); s != want || got != why {
		t.Errorf("Put(%s) is % x, %d, not % x, %d", told(e), s, got, want, why)
	}
}

func gets(t *testing.T, s string, want api.Entry, why api.Errno) {
	t.Helper()
	if e, got := entry.Get(s); e != want || got != why {
		t.Errorf("Get(% x) is %s, %d, not %s, %d", s, told(e), got, told(want), why)
	}
}

func is(t *testing.T, w string, value uint64, want api.Entry, is bool) {
	t.Helper()
	if e, got := entry.Of(w, value); e != want || got != is {
		t.Errorf("Of(%q, %d) is %s, %v, not %s, %v", w, value, told(e), got, told(want), is)
	}
}

func checks(t *testing.T, l []api.Entry, at int, why api.Errno) {
	t.Helper()
	if gotAt, got := entry.Check(l); gotAt != at || got != why {
		t.Errorf("Check(%s) is %d, %d, not %d, %d", told(l...), gotAt, got, at, why)
	}
}

func finds(t *testing.T, l []api.Entry, w string, want api.Entry, is bool) {
	t.Helper()
	if e, got := entry.Find(l, w); e != want || got != is {
		t.Errorf("Find(%s, %q) is %s, %v, not %s, %v", told(l...), w, told(e), got, told(want), is)
	}
}

// with finds out whether With of l and e answers that list.
func with(t *testing.T, want, l []api.Entry, e ...api.Entry) {
	t.Helper()
	if got := entry.With(l, e...); !slices.Equal(got, want) {
		t.Errorf("With(%s, %s) is %s, not %s", told(l...), told(e...), told(got...), told(want...))
	}
}
