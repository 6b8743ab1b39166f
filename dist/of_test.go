package dist_test

import (
	"math"
	"strings"
	"testing"

	"cedilla/dist"
)

// apart finds out whether two texts are so far from each other, by Of, and by Within each bound that could matter.
func apart(t *testing.T, a, b string, want int) {
	t.Helper()
	if n := dist.Of(a, b); n != want {
		t.Fatalf("of %q, %q: %d, not %d", a, b, n, want)
	}
	for _, k := range []int{math.MinInt, -2, -1, 0, 1, 2, 3, want - 1, want, want + 1, len(a), len(b), len(a) + len(b), math.MaxInt} {
		within(t, a, b, k, want)
	}
}

// within finds out what is answered of texts that are so far from each other, within a bound.
func within(t *testing.T, a, b string, k, want int) {
	t.Helper()
	n, is := dist.Within(a, b, k)
	if want > k && (n != 0 || is) {
		t.Fatalf("%q, %q within %d: %d, %v, not 0, false", a, b, k, n, is)
	}
	if want <= k && (n != want || !is) {
		t.Fatalf("%q, %q within %d: %d, %v, not %d, true", a, b, k, n, is, want)
	}
}

// P17.1: the chapter's examples, and others that were told by hand.
func TestDistances(t *testing.T) {
	for _, x := range []struct {
		a, b string
		n    int
	}{
		{"kitten", "sitting", 3}, {"", "abc", 3}, {"abc", "", 3}, {"", "", 0}, {"", "a", 1}, {"a", "", 1},
		{"a", "a", 0}, {"a", "b", 1}, {"\x00", "", 1}, {"\x00", "\x00", 0}, {"\x00", "\xff", 1}, {"\x7f", "\x80", 1}, {"\xff", "\xff\xff", 1},
		{"ab", "ba", 2}, {"abc", "abc", 0}, {"abc", "xyz", 3}, {"abc", "cab", 2}, {"abcd", "dcba", 4}, {"abab", "baba", 2},
		{"a", "A", 1}, {"sea", "see", 1}, {"saturday", "sunday", 3}, {"book", "back", 2}, {"gumbo", "gambol", 2}, {"intention", "execution", 5},
		{"word", "sword", 1}, {"word", "words", 1}, {"word", "wood", 1}, {"word", "or", 2}, {"wo", "word", 2}, {"rd", "word", 2}, {"wd", "word", 2},
		{"aaaa", "aa", 2}, {"aaaa", "b", 4}, {"aaaa", "abab", 2}, {"aaaabbbb", "bbbbaaaa", 8}, {"aab", "aba", 2},
		{"ä", "a", 2}, {"ä", "ö", 1}, {"ä", "é", 1}, {"ß", "ä", 1}, {"日", "本", 2}, {"\xc3", "\xc3\xa4", 1}, // bytes count, not letters
	} {
		apart(t, x.a, x.b, x.n)
	}
}

// P17.1: the chapter's examples of Within.
func TestWithinExamples(t *testing.T) {
	if n, is := dist.Within("ab", "ba", 1); n != 0 || is {
		t.Error("ab, ba within 1:", n, is)
	}
	if n, is := dist.Within("ab", "ba", 2); n != 2 || !is {
		t.Error("ab, ba within 2:", n, is)
	}
}

// P17.1: a bound below 0 has nothing within it, 0 has what is alike, and the distance itself is at most itself.
func TestWithinEdges(t *testing.T) {
	for _, s := range []string{"", "a", "\x00", "abc", strings.Repeat("ab", 300)} {
		for _, k := range []int{math.MinInt, -300, -1} {
			if n, is := dist.Within(s, s, k); n != 0 || is {
				t.Errorf("%q, it within %d: %d, %v", s, k, n, is)
			}
		}
		for _, k := range []int{0, 1, math.MaxInt} {
			if n, is := dist.Within(s, s, k); n != 0 || !is {
				t.Errorf("%q, it within %d: %d, %v", s, k, n, is)
			}
		}
		for k := range 5 {
			within(t, s, s+"xyz", k, 3)
			within(t, "xyz"+s, s, k, 3)
		}
	}
}

// P17.1: what is too far at its beginning, in its middle, at its end alone.
func TestWithinWhereItIsFar(t *testing.T) {
	s := strings.Repeat("abcdefgh", 4)
	for at := range len(s) - 3 {
		other := s[:at] + "xyz" + s[at+3:]
		lacking := s[:at] + s[at+3:]
		more := s[:at] + "xyz" + s[at:]
		for k := -1; k < 6; k++ {
			within(t, s, other, k, 3)
			within(t, s, lacking, k, 3)
			within(t, lacking, s, k, 3)
			within(t, s, more, k, 3)
			within(t, more, s, k, 3)
		}
	}
}

// P17.1: of all short texts, what change by change leads from each of them to each other one.
func TestAllShortTexts(t *testing.T) {
	for _, x := range []struct {
		bytes string
		most  int
	}{{small, 4}, {"ab", 6}} {
		l := texts(x.bytes, x.most)
		for _, a := range l {
			far := spread(a, x.bytes, x.most+1) // one byte more, for a way may lead by longer texts
			for _, b := range l {
				if n := dist.Of(a, b); n != far[b] {
					t.Fatalf("of %q, %q: %d, not %d", a, b, n, far[b])
				}
				for k := -1; k <= x.most+1; k++ {
					within(t, a, b, k, far[b])
				}
			}
		}
	}
}

// P17.1: texts of many bytes, of few and of all bytes, alike in much and in little.
func TestLongerTexts(t *testing.T) {
	var c chance
	for _, bytes := range []string{"a", "ab", small, "abcdefgh", allBytes()} {
		for range 150 {
			a := c.text(bytes, 60)
			b := c.text(bytes, 60)
			apart(t, a, b, plain(a, b))
			b = c.near(a, bytes, c.below(6))
			apart(t, a, b, plain(a, b))
		}
	}
}

// P17.1: each byte is another one than each other one, be it 0, or one from 128 on.
func TestEachByteIsItself(t *testing.T) {
	all := allBytes()
	for i := range len(all) {
		for j := range len(all) {
			want := 1
			if i == j {
				want = 0
			}
			if n := dist.Of(all[i:i+1], all[j:j+1]); n != want {
				t.Fatalf("of the bytes %d, %d: %d", i, j, n)
			}
			if n, is := dist.Within("a"+all[i:i+1], "a"+all[j:j+1], 0); n != 0 || is != (i == j) {
				t.Fatalf("of the bytes %d, %d, behind another one, within 0: %d, %v", i, j, n, is)
			}
		}
	}
	apart(t, all, "", 256)
	apart(t, all, all, 0)
	apart(t, all, all[1:], 1)
	apart(t, all, all[128:]+all[:128], 256)
}

// P17.1, P1: texts that are longer than words may be.
func TestVeryLongTexts(t *testing.T) {
	s := strings.Repeat("abcd", 500)
	apart(t, s, s, 0)
	apart(t, s, "", 2000)
	apart(t, "", s, 2000)
	apart(t, s, "d", 1999)
	apart(t, s, s[1:]+"a", 2)
	apart(t, s[:900], strings.Repeat("x", 890), 900)
	apart(t, s, s[:1000]+"x"+s[1000:1999], 2)
}
