package dist_test

import (
	"strings"
	"testing"

	"cedilla/dist"
)

// scripted finds out whether this is the script of two texts.
func scripted(t *testing.T, a, b, want string) {
	t.Helper()
	if s := dist.Script(a, b); s != want {
		t.Fatalf("of %q, %q: %q, not %q", a, b, s, want)
	}
}

// P17.3: the chapter's example, and others that were told by hand.
func TestScripts(t *testing.T) {
	for _, x := range []struct{ a, b, s string }{
		{"kitten", "sitting", "x===x=+"}, {"gumbo", "gambol", "=x===+"}, {"sitting", "kitten", "x===x=-"},
		{"", "", ""}, {"", "a", "+"}, {"a", "", "-"}, {"", "abc", "+++"}, {"abc", "", "---"}, {"\x00", "", "-"}, {"", "\xff\x00", "++"},
		{"a", "a", "="}, {"a", "b", "x"}, {"\x00", "\xff", "x"}, {"\x00", "\x00", "="}, {"abc", "abc", "==="}, {"abc", "xyz", "xxx"},
		{"word", "sword", "+===="}, {"word", "words", "====+"}, {"sword", "word", "-===="}, {"words", "word", "====-"}, {"word", "or", "-==-"},
		{"or", "word", "+==+"}, {"wod", "word", "==+="}, {"word", "wod", "==-="},
		{"ä", "a", "-x"}, {"a", "ä", "+x"}, {"ä", "ö", "=x"}, // bytes count, not letters
	} {
		scripted(t, x.a, x.b, x.s)
	}
}

// P17.3: of several scripts with as few changes, from the end on = is ahead of x, that of -, that of +.
func TestScriptsThatAreChosen(t *testing.T) {
	for _, x := range []struct{ a, b, s string }{
		{"aa", "a", "-="}, {"a", "aa", "+="}, {"aaa", "a", "--="}, {"a", "aaa", "++="}, {"aab", "ab", "-=="}, {"ab", "aab", "+=="}, // = ahead of - and of +
		{"baa", "ba", "=-="}, {"ba", "baa", "=+="}, {"abcde", "ace", "=-=-="}, {"saturday", "sunday", "=--=x==="},
		{"ab", "c", "-x"}, {"c", "ab", "+x"}, {"abc", "x", "--x"}, {"x", "abc", "++x"}, {"abc", "ca", "-xx"}, // x ahead of - and of +
		{"ab", "ba", "xx"}, {"aab", "aba", "=xx"}, {"book", "back", "=xx="}, {"intention", "execution", "xxxxx===="}, {"aaaabbbb", "bbbbaaaa", "xxxxxxxx"},
		{"aba", "bab", "+==-"}, {"bab", "aba", "+==-"}, {"abab", "baba", "+===-"}, {"aba", "bcab", "++==-"}, {"abcab", "cabc", "+===--"}, // - ahead of +
	} {
		scripted(t, x.a, x.b, x.s)
	}
}

// P17.3: of all short texts, the one that is chosen among all scripts that there are.
func TestScriptsAmongAll(t *testing.T) {
	for _, x := range []struct {
		bytes string
		most  int
	}{{small, 3}, {"ab", 4}} {
		l := texts(x.bytes, x.most)
		for _, a := range l {
			for _, b := range l {
				scripted(t, a, b, chosen(a, b))
			}
		}
	}
}

// P17.3: of more short texts, the one to which the distances of beginnings lead.
func TestScriptsByDistances(t *testing.T) {
	l := texts("abc", 4)
	for _, a := range l {
		for _, b := range l {
			scripted(t, a, b, led(a, b))
		}
	}
}

// P17.3: texts of many bytes, of few and of all bytes, alike in much and in little.
func TestScriptsOfLongerTexts(t *testing.T) {
	var c chance
	for _, bytes := range []string{"a", "ab", small, "abcdefgh", allBytes()} {
		for range 40 {
			a := c.text(bytes, 30)
			b := c.text(bytes, 30)
			scripted(t, a, b, led(a, b))
			b = c.near(a, bytes, c.below(6))
			scripted(t, a, b, led(a, b))
		}
	}
}

// P17.3: each byte goes on as itself alone, be it 0, one from 128 on, or one of the letters.
func TestScriptsOfEachByte(t *testing.T) {
	all := allBytes()
	for i := range len(all) {
		for j := range len(all) {
			want := "x="
			if i == j {
				want = "=="
			}
			scripted(t, all[i:i+1]+"-", all[j:j+1]+"-", want)
		}
	}
	scripted(t, "=x-+", "=x-+", "====")
	scripted(t, "+-x=", "=x-+", led("+-x=", "=x-+"))
	scripted(t, all, all[1:], "-"+strings.Repeat("=", 255))
	scripted(t, all[1:], all, "+"+strings.Repeat("=", 255))
}

// P17.3, P1: texts that are longer than words may be.
func TestScriptsOfVeryLongTexts(t *testing.T) {
	s := strings.Repeat("abcd", 300)
	scripted(t, s, s, strings.Repeat("=", 1200))
	scripted(t, s, "", strings.Repeat("-", 1200))
	scripted(t, "", s, strings.Repeat("+", 1200))
	scripted(t, s, strings.Repeat("x", 1190), strings.Repeat("-", 10)+strings.Repeat("x", 1190))
	scripted(t, s, s[1:], "-"+strings.Repeat("=", 1199))
	scripted(t, s, s[:500]+"x"+s[501:], strings.Repeat("=", 500)+"x"+strings.Repeat("=", 699))
}
