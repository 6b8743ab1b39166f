package cursor_test

import (
	"math"
	"slices"
	"strings"
	"testing"

	"cedilla/api"
	"cedilla/cursor"
)

// P19.1, P19.2, P19.3: the sample lists, walked from the root by all bytes, as the words say it.
func TestWalks(t *testing.T) {
	for _, l := range samples() {
		for _, c := range both(t, l...) {
			walksAll(t, c, l)
		}
	}
}

// P19.2: words that are beginnings of others have their entries, and go on.
func TestBeginnings(t *testing.T) {
	l := []api.Entry{of("a", 3), gone("ab"), of("abc", 0), of("abcd", math.MaxUint32)}
	for _, c := range both(t, l...) {
		walksAll(t, c, l)
		for i, e := range l {
			var is bool
			if c, is = c.Step("abcd"[i]); !is || c.Row() != e.Word {
				t.Fatalf("at %s: %s, %t", e.Word, told(c.Row()), is)
			}
			if x, has := c.Entry(); !has || x != e {
				t.Errorf("at %s Entry is %s, %t", e.Word, told(x), has)
			}
			if b := c.Bytes(); string(b) != "abcd"[i+1:min(i+2, 4)] {
				t.Errorf("at %s Bytes are %s", e.Word, b)
			}
			if n := c.Many(); n != 4-i {
				t.Errorf("at %s Many is %d", e.Word, n)
			}
		}
	}
}

// P19.2: entries of all values, alone, and with others around them.
func TestValues(t *testing.T) {
	for _, v := range values() {
		for _, other := range values() {
			l := []api.Entry{valued("wor", other), valued("word", v), valued("work", other), valued("x", other)}
			for _, some := range [][]api.Entry{l, l[1:], l[1:2], l[:2], {l[1], l[3]}} {
				for _, c := range both(t, some...) {
					c, is := c.Seek("word")
					if e, has := c.Entry(); !is || !has || e != valued("word", v) {
						t.Fatalf("of %s word is %s, %t", told(some), told(e), has)
					}
					if all := c.All(); !slices.Equal(all, []api.Entry{valued("word", v)}) {
						t.Fatalf("of %s behind word are %s", told(some), told(all))
					}
				}
			}
		}
	}
}

// P19.2: a weight of an entry that is gone does not count.
func TestGoneWeights(t *testing.T) {
	l := []api.Entry{{Word: "a", Weight: 7, Gone: true}, {Word: "b", Weight: math.MaxUint32, Gone: true}}
	for _, c := range both(t, l...) {
		walksAll(t, c, []api.Entry{gone("a"), gone("b")})
	}
}

// P19.2: any bytes lead on, at the root and behind it, those from 128 on too, each where it belongs.
func TestAnyBytes(t *testing.T) {
	var ones, twos, ends, some []api.Entry
	for _, b := range allBytes() {
		ones = append(ones, of(row("", b), uint32(b)))
		twos = append(twos, of(row("w", b), 1000+uint32(b)))
		ends = append(ends, of(row("", b)+"w", uint32(b)))
		if b%16 == 0 || b%16 == 15 {
			some = append(some, gone(row("", b)), of(row(row("", b), 0), 3), of(row(row("", b), 255), 4))
		}
	}
	for _, l := range [][]api.Entry{ones, twos, ends, some} {
		for _, c := range both(t, l...) {
			walksAll(t, c, l)
		}
	}
	for _, c := range both(t, ones...) {
		if !slices.Equal(c.Bytes(), allBytes()) {
			t.Errorf("Bytes are % x", c.Bytes())
		}
	}
}

// P19.2: a step by a byte that leads on, by one that doesn't, and behind that one.
func TestStepByHand(t *testing.T) {
	for _, root := range both(t, of("car", 1), of("card", 2), of("cat", 3)) {
		c, is := root.Step('c')
		if !is || !c.There() || c.Row() != "c" || string(c.Bytes()) != "a" {
			t.Errorf("c: %s, %t, % x", told(c.Row()), is, c.Bytes())
		}
		for _, b := range []byte("bdCs\x00\xff") {
			x, is := root.Step(b)
			if is {
				t.Errorf("%q is there", b)
			}
			isNone(t, x)
			for _, b := range []byte("ca\x00") {
				x, is := x.Step(b)
				if is {
					t.Errorf("behind what is not there %q is", b)
				}
				isNone(t, x)
			}
		}
		card, is := root.Seek("card")
		if !is || len(card.Bytes()) != 0 {
			t.Errorf("card: %t, % x", is, card.Bytes())
		}
		for b := range 256 {
			if x, is := card.Step(byte(b)); is || x.There() {
				t.Errorf("behind card %x is there", b)
			}
		}
	}
}

// P19.2: words of as many bytes as there may be.
func TestLongWords(t *testing.T) {
	l := []api.Entry{gone(long(1)), of(long(127), 5), of(long(128), 6), of(long(254), 0), of(long(255), math.MaxUint32), of("x"+long(254), 7)}
	for _, c := range both(t, l...) {
		walksAll(t, c, l)
		for size := 1; size <= 255; size++ {
			if x, is := c.Seek(long(size)); !is || x.Row() != long(size) {
				t.Errorf("of %d bytes: %d, %t", size, len(x.Row()), is)
			}
		}
		for _, size := range []int{256, 257, 300, 100000} {
			if x, is := c.Seek(long(size)); is || x != (cursor.Cursor{}) {
				t.Errorf("of %d bytes: %d, %t", size, len(x.Row()), is)
			}
		}
	}
	for _, b := range []byte{0, 'w', 128, 255} {
		w := strings.Repeat(row("", b), 255)
		for _, c := range both(t, of(w, 8)) {
			walksAll(t, c, []api.Entry{of(w, 8)})
		}
	}
}

// parts is a row cut in all ways into two, and into single bytes, with empty rows among them.
func parts(s string) [][]string {
	l := [][]string{{s}, {s, ""}, {"", s}, {"", s, ""}}
	var single []string
	for i := range len(s) {
		l = append(l, []string{s[:i], s[i:]}, []string{"", s[:i], "", s[i:], "", ""})
		single = append(single, s[i:i+1], "")
	}
	return append(l, single, append([]string{""}, single...))
}

// stepped is the cursor to which Step leads by all bytes of a row, or the first one that is not there.
func stepped(c cursor.Cursor, s string) (cursor.Cursor, bool) {
	for _, b := range []byte(s) {
		next, is := c.Step(b)
		if !is {
			return next, false
		}
		c = next
	}
	return c, c.There()
}

// P19.2: Seek, from each cursor to each row behind it, cut in all ways, and beside it.
func TestSeek(t *testing.T) {
	for _, l := range samples() {
		for _, root := range both(t, l...) {
			for _, s := range rows(l) {
				c, _ := stepped(root, s)
				seeks(t, c, l, s)
				for _, e := range l {
					seeks(t, root, l, e.Word)
				}
			}
		}
	}
}

// seeks finds out whether all that Seek finds from a cursor at s is what the words say.
func seeks(t *testing.T, c cursor.Cursor, l []api.Entry, s string) {
	t.Helper()
	at := c.Row()
	texts := []string{"", "\x00", "\xff", "m", long(256)}
	for _, e := range under(l, at) {
		w := e.Word[len(at):]
		texts = append(texts, w, w+"\x00", w+"\xff", w+"s", w+w, "m"+w, w+long(256))
		for i := range len(w) {
			// One that leads out of the words in its midst, and goes on as they do.
			texts = append(texts, w[:i], w[:i]+"\xfe"+w[i:], w[:i]+row("", w[i]+1)+w[i+1:])
		}
	}
	there := rows(l)
	for _, text := range texts {
		want, has := stepped(c, text)
		if _, is := slices.BinarySearch(there, at+text); is != has {
			t.Fatalf("of %s from %s steps to %s are %t", told(l), told(at), told(text), has)
		}
		for _, some := range parts(text)[:4] {
			seek(t, c, want, some)
		}
		if len(text) < 6 {
			for _, some := range parts(text) {
				seek(t, c, want, some)
			}
		}
	}
	if c.Row() != at {
		t.Fatalf("of %s the cursor at %s became one at %s", told(l), told(s), told(c.Row()))
	}
}

// seek finds out whether Seek by these rows leads to the cursor to which Step does.
func seek(t *testing.T, c, want cursor.Cursor, some []string) {
	t.Helper()
	before := slices.Clone(some)
	x, is := c.Seek(some...)
	if is != want.There() || x.Row() != want.Row() || x.There() != want.There() || !slices.Equal(x.All(), want.All()) {
		t.Fatalf("from %s by %s it finds %s, %t", told(c.Row()), told(some), told(x.Row()), is)
	}
	if !is {
		isNone(t, x)
	}
	if !slices.Equal(some, before) {
		t.Fatalf("%s became %s", told(before), told(some))
	}
}

// P19.2: Seek, by hand: by no row, by one, by many, by empty ones among them, and out of the words.
func TestSeekByHand(t *testing.T) {
	for _, root := range both(t, gone("tea"), of("ten", 4), of("to", 1)) {
		for _, some := range []struct {
			by  []string
			row string
			is  bool
		}{
			{nil, "", true},
			{[]string{}, "", true},
			{[]string{""}, "", true},
			{[]string{"", "", ""}, "", true},
			{[]string{"t"}, "t", true},
			{[]string{"ten"}, "ten", true},
			{[]string{"t", "e", "n"}, "ten", true},
			{[]string{"", "te", "", "n", ""}, "ten", true},
			{[]string{"t", "en"}, "ten", true},
			{[]string{"ten", "s"}, "", false},
			{[]string{"tens"}, "", false},
			{[]string{"txn"}, "", false},
			{[]string{"t", "x", "n"}, "", false},
			{[]string{"x", "ten"}, "", false},
			{[]string{"x", ""}, "", false},
			{[]string{"tox", "", "ten"}, "", false},
			{[]string{"n", "e", "t"}, "", false},
			{[]string{"t\x00"}, "", false},
			{[]string{"T"}, "", false},
		} {
			c, is := root.Seek(some.by...)
			if is != some.is || c.There() != some.is || c.Row() != some.row {
				t.Errorf("by %s it finds %s, %t", told(some.by), told(c.Row()), is)
			}
		}
		te, _ := root.Seek("te")
		if x, is := te.Seek(); !is || x.Row() != "te" {
			t.Errorf("from te by no row it finds %s, %t", told(x.Row()), is)
		}
		if x, is := te.Seek("", "n"); !is || x.Row() != "ten" {
			t.Errorf("from te by n it finds %s, %t", told(x.Row()), is)
		}
		if x, is := te.Seek("ten"); is || x.There() {
			t.Errorf("from te by ten it finds %s, %t", told(x.Row()), is)
		}
	}
}

// P19.2: what was stepped from stays where it is, and may be stepped from again, other ways.
func TestStepsApart(t *testing.T) {
	l := samples()[12]
	for _, root := range both(t, l...) {
		all := map[string]cursor.Cursor{"": root}
		for _, s := range rows(l)[1:] {
			all[s], _ = all[s[:len(s)-1]].Step(s[len(s)-1])
		}
		for s, c := range all {
			isAt(t, c, l, s)
			again, is := root.Seek(s)
			if !is || again != c {
				t.Errorf("of one trie, or segment, two cursors at %s are not the same", told(s))
			}
		}
	}
}
