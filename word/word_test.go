package word_test

import (
	"slices"
	"strconv"
	"strings"
	"testing"

	"cedilla/api"
	"cedilla/word"
)

// isWord tells whether a text is a word, as the chapter's words tell it.
func isWord(s string) bool { return len(s) > 0 && len(s) < 256 }

// lessByWords tells whether a is less than b, as the chapter's words tell it.
func lessByWords(a, b string) bool {
	for i := 0; i < len(a) && i < len(b); i++ {
		if a[i] != b[i] {
			return int(a[i]) < int(b[i])
		}
	}
	return len(a) < len(b)
}

// risingByWords tells whether texts rise, as the chapter's words tell it.
func risingByWords(l []string) bool {
	for i := 1; i < len(l); i++ {
		if !lessByWords(l[i-1], l[i]) {
			return false
		}
	}
	return true
}

// sharedByWords is how long the longest row is that is a beginning of each text.
func sharedByWords(l []string) int {
	if len(l) == 0 {
		return 0
	}
	for n := len(l[0]); n > 0; n-- {
		if all(l, func(s string) bool { return strings.HasPrefix(s, l[0][:n]) }) {
			return n
		}
	}
	return 0
}

// nearByWords is what Near answers, found by looking at each text.
func nearByWords(l []string, w string) (int, bool) {
	n := 0
	for i, s := range l {
		if s == w {
			return i, true
		}
		if lessByWords(s, w) {
			n++
		}
	}
	return n, false
}

func all(l []string, is func(string) bool) bool {
	for _, s := range l {
		if !is(s) {
			return false
		}
	}
	return true
}

// numbers makes the same row of numbers in each run.
type numbers uint64

func (n *numbers) below(most int) int {
	*n = *n*6364136223846793005 + 1442695040888963407
	return int(*n>>33) % most
}

// text is a text of the bytes of some, so that texts often share a beginning.
func (n *numbers) text(size int, some string) string {
	b := make([]byte, size)
	for i := range b {
		b[i] = some[n.below(len(some))]
	}
	return string(b)
}

// someBytes are those at which orders that are not by bytes go wrong.
const someBytes = "\x00\x01a\x7f\x80\xff"

// allOf is all texts of up to most bytes of some.
func allOf(some string, most int) []string {
	l := []string{""}
	for from := 0; most > 0; most-- {
		to := len(l)
		for _, s := range l[from:to] {
			for i := range len(some) {
				l = append(l, s+some[i:i+1])
			}
		}
		from = to
	}
	return l
}

// texts are ordinary ones, and edges; among them some that are no words.
func texts() []string {
	x := strings.Repeat("x", 300)
	null := strings.Repeat("\x00", 256)
	high := strings.Repeat("\xff", 256)
	l := []string{
		"", "a", "A", "ab", "abc", "abd", "b", "ba", "an", "ant", "ants", "bee", "beetle", " ", "tea",
		"\x00", "\x00\x00", "\x00a", "a\x00", "a\x00b", "\x7f", "\x80", "\x80a", "a\x80", "\xff", "\xff\xff", "\xff\x00", "a\xff",
		// As texts of runes, as bytes with a sign, or in two bytes each, these would be in another order.
		"na\xc3\xafve", "naive", "\xef\xbf\xbf", "\xf0\x90\x80\x80", "\xef\xbf\xbd", "\xed\xa0\x80", "\xc3\xa9", "z",
		x[:1], x[:2], x[:247], x[:248], x[:254], x[:255], x[:256], x[:257], x, x[:254] + "y", x[:254] + "\x00", x[:255] + "y", x[:255] + "\x00",
		null[:254], null[:255], null, high[:254], high[:255], high, null[:255] + "\x01", high[:255] + "\x00",
	}
	n := numbers(1)
	for size := range 40 {
		l = append(l, n.text(size, someBytes), n.text(size%6, "ab"))
	}
	return l
}

// rows are lists of up to three texts, in all orders, the same ones among them, and some longer ones.
func rows() [][]string {
	few := []string{"", "\x00", "a", "a\x00", "a\xff", "ab", "abc", "b", "\x80", "\xff", strings.Repeat("a", 255), strings.Repeat("a", 256)}
	l := [][]string{nil, {}}
	for _, a := range few {
		l = append(l, []string{a})
		for _, b := range few {
			l = append(l, []string{a, b})
			for _, c := range few {
				l = append(l, []string{a, b, c})
			}
		}
	}
	n := numbers(2)
	for range 2000 {
		begin := n.text(n.below(5), someBytes)
		row := make([]string, 1+n.below(12))
		for i := range row {
			row[i] = begin + n.text(n.below(5), someBytes)
		}
		l = append(l, row)
	}
	return l
}

// risen is the texts by their order, each once.
func risen(l []string) []string {
	l = slices.Clone(l)
	slices.SortFunc(l, func(a, b string) int {
		switch {
		case lessByWords(a, b):
			return -1
		case lessByWords(b, a):
			return 1
		}
		return 0
	})
	return slices.Compact(l)
}

// P4.1 and P4.2: the examples of the chapter.
func TestExamples(t *testing.T) {
	checks(t, api.OK, "a", "ab")
	checks(t, api.ErrInvalid, "a", "")
	checks(t, api.ErrInvalid, strings.Repeat("a", 256))
	checks(t, api.OK)
	if !word.Less("ab", "abc") || word.Less("b", "ab") || word.Less("a", "a") {
		t.Error("Less is", word.Less("ab", "abc"), word.Less("b", "ab"), word.Less("a", "a"))
	}
	rises(t, true, "a", "ab", "b")
	rises(t, false, "a", "a")
	rises(t, true)
	shares(t, 2, "abc", "abd", "ab")
	shares(t, 1, "x")
	shares(t, 0)
	near(t, []string{"a", "c", "e"}, "c", 1, true)
	near(t, []string{"a", "c", "e"}, "d", 2, false)
}

// P4.1: how many bytes a word may have, whatever they are.
func TestCheckSizes(t *testing.T) {
	for size := range 600 {
		checksSize(t, size)
	}
	for _, size := range []int{767, 768, 769, 1023, 1024, 1279, 65535, 65536, 65537, 65536 + 255, 65536 + 256, 1 << 24, 1<<24 + 1} {
		checksSize(t, size)
	}
}

func checksSize(t *testing.T, size int) {
	t.Helper()
	want := api.OK
	if size < 1 || size > 255 {
		want = api.ErrInvalid
	}
	for _, b := range []string{"x", "\x00", "\x80", "\xff"} {
		checks(t, want, strings.Repeat(b, size))
	}
	// Bytes count, and not runes.
	if size%2 == 0 {
		checks(t, want, strings.Repeat("\xc3\xa9", size/2))
	}
}

// P4.1: any bytes may be in a word.
func TestCheckBytes(t *testing.T) {
	var every []byte
	for a := range 256 {
		s := string([]byte{byte(a)})
		checks(t, api.OK, s, s+"a", "a"+s, s+s, strings.Repeat(s, 255))
		every = append(every, byte(a))
	}
	checks(t, api.OK, string(every[:255]), string(every[1:]))
	checks(t, api.ErrInvalid, string(every))
}

// P4.1: a text that is no word is found, wherever it stands; words need not rise.
func TestCheckLists(t *testing.T) {
	long := strings.Repeat("w", 256)
	for many := range 40 {
		l := make([]string, many)
		for i := range l {
			l[i] = strings.Repeat("w", 1+(i*37)%255)
		}
		checks(t, api.OK, l...)
		for i := range l {
			for _, bad := range []string{"", long} {
				was := l[i]
				l[i] = bad
				checks(t, api.ErrInvalid, l...)
				l[i] = was
			}
		}
	}
	checks(t, api.ErrInvalid, "")
	checks(t, api.ErrInvalid, "", "")
	checks(t, api.ErrInvalid, "", "a")
	checks(t, api.ErrInvalid, "a", "", "b")
	checks(t, api.ErrInvalid, "", long)
	checks(t, api.OK, "b", "a", "a")
	checks(t, api.OK, nil...)
	for _, l := range rows() {
		want := api.OK
		if !all(l, isWord) {
			want = api.ErrInvalid
		}
		checks(t, want, l...)
	}
}

// P4.1: Less of all pairs of short texts, and of others, is what the words say.
func TestLess(t *testing.T) {
	for _, l := range [][]string{allOf(someBytes, 3), texts()} {
		for _, a := range l {
			for _, b := range l {
				lessOf(t, a, b)
			}
		}
	}
	for a := range 256 {
		for b := range 256 {
			x, y := string([]byte{byte(a)}), string([]byte{byte(b)})
			for _, begin := range []string{"", "a", "\x00", "\xff", strings.Repeat("m", 254)} {
				lessOf(t, begin+x, begin+y)
				lessOf(t, begin+x, begin+y+"\x00")
				lessOf(t, begin+x+"\xff", begin+y)
			}
		}
	}
}

// P4.1: a beginning is less than what goes on, however long, and by whatever byte.
func TestLessOfBeginnings(t *testing.T) {
	s := strings.Repeat("\x00\xffa", 100)
	for from := range s {
		for to := from; to <= len(s); to++ {
			if is := word.Less(s[:from], s[:to]); is != (from < to) {
				t.Errorf("Less of %d and %d bytes is %v", from, to, is)
			}
			if word.Less(s[:to], s[:from]) {
				t.Errorf("%d bytes are less than %d", to, from)
			}
		}
	}
}

// P4.1: Rising is what the words say; one pair that does not rise is enough, wherever it stands.
func TestRising(t *testing.T) {
	for _, l := range rows() {
		rises(t, risingByWords(l), l...)
		rises(t, true, risen(l)...)
	}
	rises(t, true, nil...)
	rises(t, true, "")
	rises(t, true, "", "\x00", "\x00\x00", "\x80", "\xff", strings.Repeat("\xff", 256))
	rises(t, false, "", "")
	rises(t, false, "ab", "a")
	rises(t, false, "b", "a")
	rises(t, false, "a", "c", "b")
	rises(t, false, "b", "a", "c")
	// The first is less than the last, and each than the one behind the next, and still they do not rise.
	rises(t, false, "a", "c", "b", "d")
	l := risen(append(texts(), allOf(someBytes, 3)...))
	rises(t, true, l...)
	for i := 1; i < len(l); i++ {
		m := slices.Clone(l)
		m[i-1], m[i] = m[i], m[i-1]
		rises(t, false, m...)
		rises(t, false, slices.Insert(slices.Clone(l), i, l[i])...)
		rises(t, false, slices.Insert(slices.Clone(l), i, l[i-1])...)
		rises(t, false, append(slices.Clone(l), l[i-1])...)
		rises(t, true, slices.Delete(slices.Clone(l), i-1, i)...)
	}
}

// P4.2: Shared is what the words say, in whatever order the texts stand.
func TestShared(t *testing.T) {
	for _, l := range rows() {
		want := sharedByWords(l)
		shares(t, want, l...)
		for i := range l {
			shares(t, want, append(slices.Clone(l[i:]), l[:i]...)...)
		}
		shares(t, want, risen(l)...)
		shares(t, want, append(slices.Clone(l), l...)...)
	}
	for _, s := range texts() {
		shares(t, len(s), s)
		shares(t, len(s), s, s)
		shares(t, len(s), s, s+"a", s, s+"b")
		shares(t, 0, s, "")
		shares(t, 0, "", s)
	}
	shares(t, 0, nil...)
}

// P4.2: texts that part at any byte, or end there, whichever of them does.
func TestSharedAtEdges(t *testing.T) {
	s := strings.Repeat("\x00\xffa", 100)
	for at := range s {
		other := s[:at] + string([]byte{s[at] ^ 0x80}) + s[at+1:]
		for _, l := range [][]string{{s, other}, {s, s, other}, {other, s, s}, {s, other, s}, {s[:at], s, s}, {s, s, s[:at]}, {s, s[:at], s}, {s[:at]}} {
			shares(t, at, l...)
		}
		shares(t, at+1, s, s[:at+1], other[:at]+s[at:at+1])
	}
}

// P4.2: Near of lists that rise, for texts that are there and such as are not.
func TestNear(t *testing.T) {
	asked := append(texts(), allOf(someBytes, 2)...)
	for _, l := range append(rows(), texts(), allOf(someBytes, 3)) {
		l = risen(l)
		for i, w := range l {
			near(t, l, w, i, true)
			// None is between a text and that with a byte 0 behind it.
			if i+1 == len(l) || l[i+1] != w+"\x00" {
				near(t, l, w+"\x00", i+1, false)
			}
			without := slices.Delete(slices.Clone(l), i, i+1)
			near(t, without, w, i, false)
		}
		for _, w := range asked {
			at, is := nearByWords(l, w)
			near(t, l, w, at, is)
		}
	}
}

// P4.2: lists of each length, and a place ahead of all, behind all, and between any two.
func TestNearPlaces(t *testing.T) {
	var l []string
	for i := range 300 {
		l = append(l, string([]byte{byte(i / 128), byte(2*(i%128) + 1)}))
	}
	for many := range l {
		some := l[:many]
		near(t, some, "", 0, false)
		near(t, some, "\x00", 0, false)
		near(t, some, "\x00\x00", 0, false)
		near(t, some, "\xff", many, false)
		near(t, some, strings.Repeat("\xff", 256), many, false)
		for i, w := range some {
			near(t, some, w, i, true)
			near(t, some, w[:1]+string([]byte{w[1] - 1}), i, false)
			near(t, some, w+"\x00", i+1, false)
		}
	}
	near(t, nil, "", 0, false)
	near(t, nil, "a", 0, false)
	near(t, []string{}, "a", 0, false)
	near(t, []string{""}, "", 0, true)
	near(t, []string{""}, "a", 1, false)
	near(t, []string{"a"}, "", 0, false)
	near(t, []string{"", "a"}, "", 0, true)
	long := strings.Repeat("x", 256)
	near(t, []string{"", "x", long[:255], long}, long, 3, true)
	near(t, []string{"", "x", long[:255]}, long, 3, false)
}

// P4.2: a list as long as one may be.
func TestNearInMany(t *testing.T) {
	var l []string
	for i := range api.MaxEntries {
		l = append(l, strconv.Itoa(1000000+2*i))
	}
	for i, w := range l {
		near(t, l, w, i, true)
		near(t, l, strconv.Itoa(1000000+2*i+1), i+1, false)
	}
	near(t, l, "0", 0, false)
	near(t, l, "2", len(l), false)
}

// P4.3: of two words that are unlike just one is less, and what is less than a lesser one is less.
func TestOneIsLess(t *testing.T) {
	l := allOf(someBytes, 2)
	for _, a := range l {
		for _, b := range l {
			if one, other := word.Less(a, b), word.Less(b, a); one && other || (one || other) != (a != b) {
				t.Errorf("of %q and %q less are %v, %v", a, b, one, other)
			}
			for _, c := range l {
				if word.Less(a, b) && word.Less(b, c) && !word.Less(a, c) {
					t.Errorf("%q is below %q, that is below %q, and not below that", a, b, c)
				}
			}
		}
	}
}

// P4.3: what shares n bytes stands together: what is between two that share them shares them too, and what does not is less than both, or both are less.
func TestSharersStandTogether(t *testing.T) {
	l := append(allOf(someBytes, 2), allOf("ab", 4)...)
	for _, a := range l {
		for _, b := range l {
			n := word.Shared(a, b)
			for _, c := range l {
				if word.Shared(a, c) < n && word.Less(a, c) != word.Less(b, c) {
					t.Errorf("%q is between %q and %q, but does not share %d bytes", c, a, b, n)
				}
			}
		}
	}
}

// P4.3: of words that rise, what the first and the last one share all share.
func TestFirstAndLast(t *testing.T) {
	for _, l := range append(rows(), texts(), allOf(someBytes, 3)) {
		l = risen(l)
		if len(l) == 0 {
			continue
		}
		if !word.Rising(l...) {
			t.Fatalf("%q does not rise", l)
		}
		for to := 1; to <= len(l); to++ {
			for _, from := range []int{0, to / 3, to / 2, to - 1} {
				if n, want := word.Shared(l[from:to]...), word.Shared(l[from], l[to-1]); n != want {
					t.Errorf("%q share %d, the first and the last one %d", l[from:to], n, want)
				}
			}
		}
	}
}

// P1: lists that do not rise are no error of Near: it ends, and what it finds is there.
func TestNearOfAnyList(t *testing.T) {
	for _, l := range append(rows(), texts()) {
		for _, w := range append(slices.Clone(l), "", "a", "\xff", "m", strings.Repeat("a", 256)) {
			at, is := word.Near(l, w)
			if at < 0 || at > len(l) || is && l[at] != w {
				t.Errorf("Near(%q, %q) is %d, %v", l, w, at, is)
			}
		}
	}
}

// What is handed in stays as it is, and what stands behind it too.
func TestNothingIsChanged(t *testing.T) {
	for _, l := range append(rows(), texts()) {
		more := append(slices.Clone(l), "behind", "more")
		was := slices.Clone(more)
		some := more[:len(l)]
		word.Check(some...)
		word.Rising(some...)
		word.Shared(some...)
		word.Near(some, "a")
		word.Near(some, "\xff")
		if !slices.Equal(more, was) {
			t.Errorf("%q is %q now", was, more)
		}
	}
}

func checks(t *testing.T, want api.Errno, l ...string) {
	t.Helper()
	if e := word.Check(l...); e != want {
		t.Errorf("Check(%q) is %d, not %d", l, e, want)
	}
}

func lessOf(t *testing.T, a, b string) {
	t.Helper()
	if is, want := word.Less(a, b), lessByWords(a, b); is != want {
		t.Errorf("Less(%q, %q) is %v, not %v", a, b, is, want)
	}
}

func rises(t *testing.T, want bool, l ...string) {
	t.Helper()
	if is := word.Rising(l...); is != want {
		t.Errorf("Rising(%q) is %v, not %v", l, is, want)
	}
}

func shares(t *testing.T, want int, l ...string) {
	t.Helper()
	if n := word.Shared(l...); n != want {
		t.Errorf("Shared(%q) is %d, not %d", l, n, want)
	}
}

// near finds out whether Near tells that place, and whether the text is there.
func near(t *testing.T, l []string, w string, at int, is bool) {
	t.Helper()
	if gotAt, gotIs := word.Near(l, w); gotAt != at || gotIs != is {
		t.Errorf("Near of %d texts and %q is %d, %v, not %d, %v", len(l), w, gotAt, gotIs, at, is)
	}
}
