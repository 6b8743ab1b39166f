package name_test

import (
	"math"
	"slices"
	"strconv"
	"strings"
	"testing"

	"cedilla/api"
	"cedilla/name"
)

// beginnings are what stands ahead of numbers, by kinds.
var beginnings = map[int]string{api.NameLog: "wal-", api.NameSeg: "seg-"}

// digitsByWords is a number's digits, one after the other, as the chapter's words tell them; nothing of what is no number.
func digitsByWords(n int) string {
	if n < 1 || n > 1000000000 {
		return ""
	}
	s := ""
	for ; n > 0; n /= 10 {
		s = "0123456789"[n%10:n%10+1] + s
	}
	return s
}

// numberByWords is the number that has these digits, and whether there is one.
func numberByWords(s string) (int, bool) {
	if len(s) < 1 || len(s) > 10 || s[0] == '0' {
		return 0, false
	}
	n := int64(0)
	for _, b := range []byte(s) {
		at := strings.IndexByte("0123456789", b)
		if at < 0 {
			return 0, false
		}
		n = 10*n + int64(at)
	}
	return int(n), n <= 1000000000
}

// makeByWords is what Make answers, as the chapter's words tell it.
func makeByWords(kind, n int) string {
	switch kind {
	case 1:
		return "manifest"
	case 2:
		return "manifest.tmp"
	case 3, 4:
		if s := digitsByWords(n); s != "" {
			return map[int]string{3: "wal-", 4: "seg-"}[kind] + s
		}
	}
	return ""
}

// parseByWords is what Parse answers, as the chapter's words tell it.
func parseByWords(s string) (kind, n int) {
	switch s {
	case "manifest":
		return 1, 0
	case "manifest.tmp":
		return 2, 0
	}
	if len(s) < 4 {
		return 0, 0
	}
	n, is := numberByWords(s[4:])
	switch {
	case is && s[:4] == "wal-":
		return 3, n
	case is && s[:4] == "seg-":
		return 4, n
	}
	return 0, 0
}

// numbersByWords is what Numbers answers, found by taking the least that is above the last one, again and again.
func numbersByWords(kind int, names []string) []int {
	if kind != 3 && kind != 4 {
		return nil
	}
	var l []int
	for last := 0; ; {
		next := math.MaxInt
		for _, s := range names {
			if k, n := parseByWords(s); k == kind && n > last && n < next {
				next = n
			}
		}
		if next == math.MaxInt {
			return l
		}
		l, last = append(l, next), next
	}
}

// numbers makes the same row of numbers in each run.
type numbers uint64

func (n *numbers) below(most int) int {
	*n = *n*6364136223846793005 + 1442695040888963407
	return int(*n>>33) % most
}

// text is a text of the bytes of some.
func (n *numbers) text(size int, some string) string {
	b := make([]byte, size)
	for i := range b {
		b[i] = some[n.below(len(some))]
	}
	return string(b)
}

// kinds are all kinds, and numbers that are none.
func kinds() []int {
	l := []int{math.MinInt, math.MinInt + 1, math.MinInt32, -1 << 16, -256, 5 + 256, 1 << 16, 1<<16 + 3, math.MaxInt32, math.MaxUint32 + 4, math.MaxInt - 1, math.MaxInt}
	for kind := -9; kind < 14; kind++ {
		l = append(l, kind)
	}
	return l
}

// some are numbers, and what is none, about all edges.
func some() []int {
	l := []int{math.MinInt, math.MinInt + 1, math.MaxInt - 1, math.MaxInt}
	for n := -20; n < 1200; n++ {
		l = append(l, n)
	}
	for n := 10; n < 1000000000000000000; n *= 10 {
		for more := -2; more <= 2; more++ {
			l = append(l, n+more, -n-more, 3*n+more, 9*n+more)
		}
	}
	for bit := range 63 {
		for more := -2; more <= 2; more++ {
			l = append(l, 1<<bit+more, -1<<bit-more)
		}
	}
	return l
}

// parsed holds what Parse answers of s against the words.
func parsed(t *testing.T, s string) {
	t.Helper()
	kind, n := name.Parse(s)
	wantKind, want := parseByWords(s)
	if kind != wantKind || n != want {
		t.Errorf("Parse(%.80q) is %d, %d, not %d, %d", s, kind, n, wantKind, want)
	}
}

// numbered holds what Numbers answers of names against the words.
func numbered(t *testing.T, kind int, names ...string) {
	t.Helper()
	if l, want := name.Numbers(kind, names...), numbersByWords(kind, names); !slices.Equal(l, want) {
		t.Errorf("Numbers(%d, %.400q) is %v, not %v", kind, names, l, want)
	}
}

// P9.1, P9.2: the examples of the chapter.
func TestExamples(t *testing.T) {
	for _, x := range []struct {
		kind, n int
		want    string
	}{
		{api.NameLog, 17, "wal-17"},
		{api.NameSeg, 0, ""},
		{api.NameTemp, 5, "manifest.tmp"},
	} {
		if s := name.Make(x.kind, x.n); s != x.want {
			t.Errorf("Make(%d, %d) is %q, not %q", x.kind, x.n, s, x.want)
		}
	}
	for _, x := range []struct {
		s       string
		kind, n int
	}{
		{"seg-1000000000", api.NameSeg, 1000000000},
		{"seg-1000000001", api.NameOther, 0},
		{"wal-01", api.NameOther, 0},
		{"manifest", api.NameManifest, 0},
		{"Manifest", api.NameOther, 0},
	} {
		if kind, n := name.Parse(x.s); kind != x.kind || n != x.n {
			t.Errorf("Parse(%q) is %d, %d, not %d, %d", x.s, kind, n, x.kind, x.n)
		}
	}
	if l := name.Numbers(api.NameLog, "wal-3", "seg-1", "wal-2", "wal-3"); !slices.Equal(l, []int{2, 3}) {
		t.Errorf("Numbers are %v", l)
	}
}

// P9.1: names by hand, of each kind, and of numbers about the edges.
func TestMakeByHand(t *testing.T) {
	for _, x := range []struct {
		kind, n int
		want    string
	}{
		{api.NameOther, 0, ""},
		{api.NameOther, 1, ""},
		{api.NameOther, 17, ""},
		{api.NameManifest, 0, "manifest"},
		{api.NameManifest, 1, "manifest"},
		{api.NameManifest, -1, "manifest"},
		{api.NameManifest, 1000000001, "manifest"},
		{api.NameManifest, math.MinInt, "manifest"},
		{api.NameManifest, math.MaxInt, "manifest"},
		{api.NameTemp, 0, "manifest.tmp"},
		{api.NameTemp, 1, "manifest.tmp"},
		{api.NameTemp, -7, "manifest.tmp"},
		{api.NameTemp, math.MaxInt, "manifest.tmp"},
		{api.NameLog, 0, ""},
		{api.NameLog, 1, "wal-1"},
		{api.NameLog, 9, "wal-9"},
		{api.NameLog, 10, "wal-10"},
		{api.NameLog, 100, "wal-100"},
		{api.NameLog, 1234567890, ""},
		{api.NameLog, 123456789, "wal-123456789"},
		{api.NameLog, 999999999, "wal-999999999"},
		{api.NameLog, 1000000000, "wal-1000000000"},
		{api.NameLog, 1000000001, ""},
		{api.NameLog, -1, ""},
		{api.NameLog, math.MinInt, ""},
		{api.NameSeg, 1, "seg-1"},
		{api.NameSeg, 12, "seg-12"},
		{api.NameSeg, 1000000000, "seg-1000000000"},
		{api.NameSeg, 1000000001, ""},
		{api.NameSeg, -1000000000, ""},
		{api.NameSeg, math.MaxInt, ""},
		{api.LastName + 1, 1, ""},
		{-1, 1, ""},
		{-3, 1, ""},
		{-4, 1, ""},
		{math.MinInt, 1, ""},
		{math.MaxInt, 1, ""},
	} {
		if s := name.Make(x.kind, x.n); s != x.want {
			t.Errorf("Make(%d, %d) is %q, not %q", x.kind, x.n, s, x.want)
		}
	}
}

// P9.1, P1: all kinds, and what is none, with numbers about all edges.
func TestMake(t *testing.T) {
	for _, kind := range kinds() {
		for _, n := range some() {
			if s, want := name.Make(kind, n), makeByWords(kind, n); s != want {
				t.Errorf("Make(%d, %d) is %q, not %q", kind, n, s, want)
			}
		}
	}
}

// P9.1: what names are told as, by hand: digits as they are written, and in all ways in which they are not.
func TestDigitsByHand(t *testing.T) {
	is := map[string]int{"1": 1, "7": 7, "9": 9, "10": 10, "19": 19, "90": 90, "100": 100, "65536": 65536, "123456789": 123456789, "999999999": 999999999, "1000000000": 1000000000}
	not := []string{
		"", "0", "00", "01", "001", "0000000001", "00000000001", "01000000000",
		"1000000001", "1000000009", "1000000010", "1100000000", "1999999999", "2000000000", "9999999999", "10000000000", "10000000001",
		// Beyond what an int has, and numbers that wrap round in it to ones that may be.
		"2147483648", "4294967295", "4294967296", "4294967297", "9223372036854775807", "9223372036854775808", "18446744073709551615", "18446744073709551616", "18446744073709551617", "18446744073709551623", "340282366920938463463374607431768211457",
		"+1", "-1", "--1", "+", "-", "-0", "+0", "+01", "1+", "1-",
		" 1", "1 ", " ", "1 2", "\t1", "1\n", "\n1", "1\r", "\v1", "1\x00", "\x001", "1\xc2\xa0",
		"a", "1a", "a1", "1b", "f", "ff", "0x1", "0b1", "0o7", "1x", "1e3", "1E3", "1.", "1.0", ".1", "1,000", "1_000", "1_0", "_1", "1_", "1/", "/1", "1:", ":", "Inf", "NaN", "one",
		// Digits of other letters are none.
		"\xd9\xa1", "1\xd9\xa2", "\xef\xbc\x91", "\xc2\xb2", "\xff", "1\xff", "\x80", "\xb1", "1\xb1",
	}
	for kind, ahead := range beginnings {
		for s, want := range is {
			if k, n := name.Parse(ahead + s); k != kind || n != want {
				t.Errorf("Parse(%q) is %d, %d", ahead+s, k, n)
			}
		}
		for _, s := range not {
			if k, n := name.Parse(ahead + s); k != api.NameOther || n != 0 {
				t.Errorf("Parse(%q) is %d, %d", ahead+s, k, n)
			}
		}
	}
}

// P9.1: what is no name, by hand, whatever stands ahead of a name, or behind it.
func TestOthersByHand(t *testing.T) {
	l := []string{
		"", "a", "x", " ", "1", "17", "0", "-1", "\x00", "\xff", "\xff\xfe\xfd", "\xc3", "\xed\xa0\x80",
		"m", "manifes", "manifesto", "manifests", "Manifest", "MANIFEST", "manifesT", "anifest", "mmanifest", "manifest1", "manifest-1", "manifest0",
		"manifest.", "manifest.t", "manifest.tm", "manifest.tmpp", "manifest.tmp1", "manifest.tmp-1", "manifest.TMP", "Manifest.tmp", "manifest.Tmp", "manifest tmp", "manifesttmp", "manifest_tmp", ".tmp", "tmp",
		"manifest.tmp.tmp", "manifestmanifest", "manifest\x00", "\x00manifest", "manifest\xff",
		"w", "wa", "wal", "wal-", "wal1", "wal_1", "wal.1", "wal 1", "wal--1", "wal-1-1", "WAL-1", "Wal-1", "waL-1", "val-1", "al-1", "wwal-1", "wal-1.tmp", "wal-1.log", "wal-wal-1", "wal-seg-1", "wal-manifest", "wal-\xff", "wal\xad1", "wal\xe2\x80\x911",
		"s", "se", "seg", "seg-", "seg1", "seg_1", "seg:1", "seg--1", "SEG-1", "Seg-1", "sgg-1", "eg-1", "sseg-1", "seg-1.tmp", "seg-seg-1", "seg-wal-1", "sal-1", "weg-1", "wag-1",
		"other", "log-1", "segment-1", "-1wal", "1-wal", "1wal-",
	}
	for _, s := range []string{"manifest", "manifest.tmp", "wal-1", "wal-17", "seg-1", "seg-1000000000"} {
		for _, more := range []string{" ", "\x00", "\n", "\xff", ".", "/", "a", "A", "-", "+", "/x", ".bak"} {
			l = append(l, more+s, s+more, more+s+more)
		}
		l = append(l, strings.ToUpper(s), strings.ToUpper(s[:1])+s[1:], "0"+s, "./"+s, s[1:])
	}
	for _, s := range l {
		if kind, n := name.Parse(s); kind != api.NameOther || n != 0 {
			t.Errorf("Parse(%q) is %d, %d", s, kind, n)
		}
	}
}

// P9.1: of names, and what is nearly one, all texts that are one change of one byte away.
func TestNearNames(t *testing.T) {
	for _, s := range []string{"", "manifest", "manifest.tmp", "wal-", "wal-0", "wal-1", "wal-9", "wal-10", "wal-99", "wal-100000000", "wal-999999999", "wal-1000000000", "wal-1000000001", "seg-", "seg-1", "seg-20", "seg-305", "seg-100000000", "seg-1000000000", "seg-2000000000"} {
		parsed(t, s)
		for at := range len(s) + 1 {
			for b := range 256 {
				one := string([]byte{byte(b)})
				parsed(t, s[:at]+one+s[at:])
				if at < len(s) {
					parsed(t, s[:at]+one+s[at+1:])
				}
			}
			if at < len(s) {
				parsed(t, s[:at]+s[at+1:])
			}
			parsed(t, s[:at])
			parsed(t, s[at:])
		}
	}
}

// P9.1: all short texts behind a beginning, and alone.
func TestShortTexts(t *testing.T) {
	l := []string{""}
	for from := 0; len(l) < 60000; {
		to := len(l)
		for _, s := range l[from:to] {
			for _, more := range []string{"0", "1", "2", "9", "-", "+", " ", "_", "a"} {
				l = append(l, s+more)
			}
		}
		from = to
	}
	for _, s := range l {
		parsed(t, s)
		parsed(t, "wal-"+s)
		parsed(t, "seg-"+s)
		parsed(t, "manifest"+s)
	}
}

// P9.1, P1: texts of very many bytes are names of none.
func TestLongTexts(t *testing.T) {
	for _, ahead := range []string{"", "manifest", "manifest.tmp", "wal-", "seg-", "wal-1", "seg-0"} {
		for _, size := range []int{9, 10, 11, 18, 19, 20, 21, 64, 65, 255, 256, 300, 1 << 16, 1<<16 + 1, 1 << 20} {
			for _, more := range []string{"0", "1", "9", "a", "-", " ", "\x00", "\xff"} {
				parsed(t, ahead+strings.Repeat(more, size))
				parsed(t, ahead+strings.Repeat(more, size)+"1")
				parsed(t, ahead+"1"+strings.Repeat(more, size))
			}
		}
	}
}

// P9.1, P1: texts by chance, that end like names, or begin like them, or neither.
func TestAnyTexts(t *testing.T) {
	n := numbers(9)
	ahead := []string{"", "wal-", "seg-", "wal", "seg", "manifest", "manifest.tmp", "-", "w", "\xff"}
	bytes := []string{"0123456789", "01", "0123456789+- _xab", "wal-seg1manifest.tmp", "\x00\x7f\x80\xff1"}
	for range 100000 {
		parsed(t, ahead[n.below(len(ahead))]+n.text(n.below(13), bytes[n.below(len(bytes))]))
	}
}

// P9.2: the numbers of names, by hand.
func TestNumbersByHand(t *testing.T) {
	for _, x := range []struct {
		kind  int
		names []string
		want  []int
	}{
		{api.NameLog, nil, nil},
		{api.NameSeg, []string{}, nil},
		{api.NameLog, []string{""}, nil},
		{api.NameLog, []string{"wal-1"}, []int{1}},
		{api.NameSeg, []string{"wal-1"}, nil},
		{api.NameLog, []string{"seg-1"}, nil},
		{api.NameSeg, []string{"seg-1"}, []int{1}},
		{api.NameLog, []string{"wal-9", "wal-8", "wal-7", "wal-1"}, []int{1, 7, 8, 9}},
		{api.NameLog, []string{"wal-1", "wal-7", "wal-8", "wal-9"}, []int{1, 7, 8, 9}},
		// By their texts these would be in another order.
		{api.NameSeg, []string{"seg-10", "seg-100", "seg-2", "seg-9", "seg-1000000000", "seg-11"}, []int{2, 9, 10, 11, 100, 1000000000}},
		{api.NameLog, []string{"wal-5", "wal-5"}, []int{5}},
		{api.NameLog, []string{"wal-5", "wal-5", "wal-5", "wal-4", "wal-5", "wal-4"}, []int{4, 5}},
		{api.NameLog, []string{"wal-5", "seg-4", "wal-3", "seg-5", "manifest", "manifest.tmp", "x"}, []int{3, 5}},
		{api.NameSeg, []string{"wal-5", "seg-4", "wal-3", "seg-5", "manifest", "manifest.tmp", "x"}, []int{4, 5}},
		{api.NameLog, []string{"wal-0", "wal-01", "wal-1000000001", "wal--1", "wal-", "wal-+2", "Wal-3", "wal-4 "}, nil},
		{api.NameLog, []string{"wal-0", "wal-01", "wal-1000000000", "wal-1000000001", "wal-1"}, []int{1, 1000000000}},
		{api.NameManifest, []string{"manifest", "manifest.tmp", "wal-1", "seg-2"}, nil},
		{api.NameTemp, []string{"manifest", "manifest.tmp", "wal-1", "seg-2"}, nil},
		{api.NameOther, []string{"", "x", "wal-0", "wal-01", "1", "17", "manifest", "wal-1", "seg-2"}, nil},
		{api.LastName + 1, []string{"wal-1", "seg-2", "manifest", "x"}, nil},
		{-1, []string{"wal-1", "seg-2", "manifest", "x"}, nil},
		{math.MinInt, []string{"wal-1", "seg-2", "manifest", "x"}, nil},
		{math.MaxInt, []string{"wal-1", "seg-2", "manifest", "x"}, nil},
	} {
		if l := name.Numbers(x.kind, x.names...); !slices.Equal(l, x.want) {
			t.Errorf("Numbers(%d, %q) is %v, not %v", x.kind, x.names, l, x.want)
		}
	}
	if l := name.Numbers(api.NameLog); len(l) != 0 {
		t.Errorf("Numbers of no names are %v", l)
	}
}

// P9.2, P1: all kinds, and what is none, of names of all kinds, in all orders.
func TestNumbers(t *testing.T) {
	few := []string{"wal-1", "wal-2", "wal-10", "seg-1", "seg-3", "seg-1000000000", "manifest", "manifest.tmp", "wal-01", ""}
	for _, kind := range kinds() {
		numbered(t, kind)
		for _, a := range few {
			numbered(t, kind, a)
			for _, b := range few {
				numbered(t, kind, a, b)
				for _, c := range few {
					numbered(t, kind, a, b, c)
				}
			}
		}
	}
	n := numbers(92)
	for range 3000 {
		var l []string
		for range n.below(40) {
			l = append(l, []string{"wal-", "wal-", "seg-", "seg-0", "x"}[n.below(5)]+strconv.Itoa(n.below([]int{3, 30, 3000, 1200000000}[n.below(4)])))
		}
		numbered(t, api.NameLog, l...)
		numbered(t, api.NameSeg, l...)
		numbered(t, n.below(9)-2, l...)
	}
}

// P9.2: the numbers of very many names, rising, falling, and many of them alike.
func TestNumbersOfMany(t *testing.T) {
	const many = 200000
	var want []int
	rising, falling, alike := make([]string, many), make([]string, many), make([]string, many)
	for i := range many {
		want = append(want, i+1)
		rising[i] = "seg-" + strconv.Itoa(i+1)
		falling[many-1-i] = rising[i]
		alike[i] = "seg-" + strconv.Itoa(3-i%3)
	}
	if l := name.Numbers(api.NameSeg, rising...); !slices.Equal(l, want) {
		t.Errorf("of rising names there are %d numbers", len(l))
	}
	if l := name.Numbers(api.NameSeg, falling...); !slices.Equal(l, want) {
		t.Errorf("of falling names there are %d numbers", len(l))
	}
	if l := name.Numbers(api.NameSeg, append(falling, rising...)...); !slices.Equal(l, want) {
		t.Errorf("of names that stand twice there are %d numbers", len(l))
	}
	if l := name.Numbers(api.NameSeg, alike...); !slices.Equal(l, want[:3]) {
		t.Errorf("of three names, again and again, there are %d numbers", len(l))
	}
	if l := name.Numbers(api.NameLog, rising...); len(l) != 0 {
		t.Errorf("of other kinds' names there are %d numbers", len(l))
	}
}

// P9.3: what was made is known again.
func TestMadeIsKnown(t *testing.T) {
	all := some()
	for n := range 100000 {
		all = append(all, n)
	}
	for kind := range api.LastName + 1 {
		for _, n := range all {
			s := name.Make(kind, n)
			if s == "" {
				continue
			}
			if _, has := beginnings[kind]; !has {
				n = 0
			}
			if k, m := name.Parse(s); k != kind || m != n {
				t.Fatalf("Parse(%q) is %d, %d, not %d, %d", s, k, m, kind, n)
			}
			if l := name.Numbers(kind, s); n != 0 && !slices.Equal(l, []int{n}) {
				t.Fatalf("Numbers(%d, %q) is %v", kind, s, l)
			}
		}
	}
	for kind := range beginnings {
		for _, n := range []int{1, 2, 9, 10, 11, 99, 100, 12345, 999999999, 1000000000} {
			if name.Make(kind, n) == "" {
				t.Errorf("Make(%d, %d) is nothing", kind, n)
			}
		}
	}
}

// P9.3: what is known is made again just so; names of other kinds, or numbers, are other ones.
func TestKnownIsMade(t *testing.T) {
	n := numbers(93)
	known := map[string]bool{}
	for range 200000 {
		s := []string{"wal-", "seg-", "manifest", "manifest.tmp"}[n.below(4)]
		s += n.text(n.below(4)*n.below(4), "0123456789"+[]string{"", "", "+-_ x"}[n.below(3)])
		kind, m := name.Parse(s)
		if kind == api.NameOther {
			continue
		}
		known[s] = true
		if again := name.Make(kind, m); again != s {
			t.Fatalf("Parse(%q) is %d, %d, of which Make is %q", s, kind, m, again)
		}
	}
	if len(known) < 1000 {
		t.Errorf("only %d names were known", len(known))
	}
	made := map[string]bool{}
	for n := range 2001 {
		for kind := range beginnings {
			if s := name.Make(kind, n); s != "" {
				made[s] = true
			}
		}
	}
	if len(made) != 4000 {
		t.Errorf("of 2 * 2000 names there are %d", len(made))
	}
}

// Names fit to be a disk's: of each kind 1 to MaxName bytes.
func TestNamesFitADisk(t *testing.T) {
	for kind := api.NameManifest; kind <= api.LastName; kind++ {
		for _, n := range []int{1, 1000000000} {
			if s := name.Make(kind, n); len(s) < 1 || len(s) > api.MaxName {
				t.Errorf("Make(%d, %d) is %q", kind, n, s)
			}
		}
	}
}

// Rules: what was handed in is not changed, nor kept, and answers are their callers'.
func TestAnswersAreTheCallers(t *testing.T) {
	names := []string{"wal-9", "wal-3", "x", "wal-9", "seg-4", "wal-1"}
	was := slices.Clone(names)
	want := []int{1, 3, 9}
	first := name.Numbers(api.NameLog, names...)
	if !slices.Equal(names, was) {
		t.Errorf("the names are %q now", names)
	}
	for i := range names {
		names[i] = "wal-1000"
	}
	if !slices.Equal(first, want) {
		t.Errorf("behind a change of the names Numbers are %v", first)
	}
	second := name.Numbers(api.NameLog, was...)
	for i := range first {
		first[i] = -1
	}
	_ = append(first[:cap(first)], -2)
	clear(first[:cap(first)])
	if !slices.Equal(second, want) {
		t.Errorf("behind a change of another answer Numbers are %v", second)
	}
	if l := name.Numbers(api.NameLog, was...); !slices.Equal(l, want) {
		t.Errorf("behind a change of an answer Numbers are %v", l)
	}
	if s := name.Make(api.NameManifest, 0); s != "manifest" {
		t.Errorf("Make is %q", s)
	}
}

// Nothing hangs on what was asked ahead: the same answers in any order, and again.
func TestAnswersHangOnArgumentsAlone(t *testing.T) {
	n := numbers(94)
	for range 20000 {
		kind, m := n.below(7)-1, some()[n.below(1000)]
		if s, want := name.Make(kind, m), makeByWords(kind, m); s != want {
			t.Fatalf("Make(%d, %d) is %q, not %q", kind, m, s, want)
		}
		parsed(t, "wal-"+strconv.Itoa(m))
		numbered(t, kind, "seg-"+strconv.Itoa(m), "wal-7", "seg-7")
	}
}
