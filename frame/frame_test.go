package frame_test

import (
	"hash/crc32"
	"math"
	"slices"
	"strings"
	"testing"
	"unsafe"

	"cedilla/api"
	"cedilla/frame"
)

// byWords is the frame of a payload as the chapter's words tell it, whether it may be one or not.
func byWords(payload string) string { return sealed(numberOf(len(payload)) + payload) }

// sealed is bytes with their sum behind them.
func sealed(s string) string {
	n := crc32.ChecksumIEEE([]byte(s))
	return s + string([]byte{byte(n), byte(n >> 8), byte(n >> 16), byte(n >> 24)})
}

// numberOf is the bytes of a number of at most two.
func numberOf(n int) string {
	switch {
	case n < 248:
		return string([]byte{byte(n)})
	case n < 256:
		return string([]byte{0xf8, byte(n)})
	}
	return string([]byte{0xf9, byte(n), byte(n >> 8)})
}

// stands is what stands at a place, as the chapter's words tell it.
func stands(s string, at int) (payload string, next int, e api.Errno) {
	if at < 0 || at > len(s) {
		return "", at, api.ErrArg
	}
	if at == len(s) {
		return "", at, api.ErrNone
	}
	digits := max(0, int(s[at])-247)
	from := at + 1 + digits
	if from > len(s) {
		return "", at, api.ErrShort
	}
	last := s[from-1]
	if digits > 1 && last == 0 || digits == 1 && last < 248 {
		return "", at, api.ErrForm
	}
	// A number of three bytes and more behind the first one is above 300, for its last byte is not 0.
	if s[at] == 0 || digits > 2 {
		return "", at, api.ErrLong
	}
	many := int(s[at])
	switch digits {
	case 1:
		many = int(s[at+1])
	case 2:
		many = int(s[at+1]) + 256*int(s[at+2])
	}
	if many > 300 {
		return "", at, api.ErrLong
	}
	if len(s)-from < many+4 {
		return "", at, api.ErrShort
	}
	if byWords(s[from:from+many]) != s[at:from+many+4] {
		return "", at, api.ErrSum
	}
	return s[from : from+many], from + many + 4, api.OK
}

// allOf is what All answers, as the chapter's words tell it.
func allOf(s string) (l []string, at int, e api.Errno) {
	for {
		payload, next, e := stands(s, at)
		if e == api.ErrNone {
			return l, at, api.OK
		}
		if e != api.OK {
			return l, at, e
		}
		l, at = append(l, payload), next
	}
}

// numbers makes the same row of numbers in each run.
type numbers uint64

func (n *numbers) below(most int) int {
	*n = *n*6364136223846793005 + 1442695040888963407
	return int(*n>>33) % most
}

func (n *numbers) text(size int) string {
	b := make([]byte, size)
	for i := range b {
		b[i] = byte(n.below(256))
	}
	return string(b)
}

// edges are how many bytes payloads have where something changes.
var edges = []int{1, 2, 10, 246, 247, 248, 249, 254, 255, 256, 257, 299, 300}

// payloads are some of each size that may be.
func payloads() []string {
	n := numbers(1)
	l := []string{"a", "\x00", "\xff", "\xf8", "first", "second", "hello", "na\xc3\xafve"}
	for size := 1; size <= 300; size++ {
		l = append(l, n.text(size), strings.Repeat("\x00", size), strings.Repeat("\xff", size))
	}
	return l
}

// P3.1 and P3.2: the examples of the chapter, the sum of a frame among them by hand.
func TestExamples(t *testing.T) {
	if s, e := frame.Put("a"); s != "\x01\x61\x70\x72\x77\x62" || e != api.OK {
		t.Errorf("Put(a) is % x, %d", s, e)
	}
	for _, c := range []struct {
		s string
		e api.Errno
	}{
		{"\x01\x61\x00\x00\x00\x00", api.ErrSum},
		{"\x00", api.ErrLong},
		{"\xf8\x01", api.ErrForm},
		{"\xfa\x00\x00", api.ErrShort},
	} {
		bad(t, c.s, 0, c.e)
	}
	if l, good, e := frame.All(""); len(l) != 0 || good != 0 || e != api.OK {
		t.Errorf("All of nothing is %q, %d, %d", l, good, e)
	}
}

// P3.1: the frames of payloads of each size that may be, and how many bytes they have.
func TestPut(t *testing.T) {
	for _, p := range payloads() {
		want := byWords(p)
		if s, e := frame.Put(p); s != want || e != api.OK {
			t.Errorf("Put(%q) is % x, %d, not % x", p, s, e, want)
		}
		if n := frame.Size(p); n != len(want) {
			t.Errorf("Size(%q) is %d, not %d", p, n, len(want))
		}
	}
}

// P3.1: sizes at the edges, by hand.
func TestSizeAtEdges(t *testing.T) {
	for _, c := range [][2]int{{0, 0}, {1, 6}, {247, 252}, {248, 254}, {255, 261}, {256, 263}, {300, 307}, {301, 0}} {
		p := strings.Repeat("x", c[0])
		if n := frame.Size(p); n != c[1] {
			t.Errorf("Size of %d bytes is %d, not %d", c[0], n, c[1])
		}
		if s, _ := frame.Put(p); len(s) != c[1] {
			t.Errorf("Put of %d bytes has %d, not %d", c[0], len(s), c[1])
		}
	}
}

// P3.1: what is no payload has no frame.
func TestPutOfNoPayload(t *testing.T) {
	for _, size := range []int{0, 301, 302, 303, 511, 512, 513, 556, 600, 65536, 65537, 65836, 1 << 24, 1<<24 + 1} {
		p := strings.Repeat("p", size)
		if s, e := frame.Put(p); s != "" || e != api.ErrLong {
			t.Errorf("Put of %d bytes has %d bytes, and is %d", size, len(s), e)
		}
		if n := frame.Size(p); n != 0 {
			t.Errorf("Size of %d bytes is %d", size, n)
		}
	}
}

// P3.2: what is put is had, wherever it stands, and whatever is around it.
func TestGetOfPut(t *testing.T) {
	for _, p := range payloads() {
		f := byWords(p)
		for _, around := range []string{"", "\x00", "\xff", "\xf8\x01", "words", f} {
			got, next, e := frame.Get(around+f+around, len(around))
			if got != p || next != len(around)+len(f) || e != api.OK {
				t.Errorf("Get of the frame of %q among % x is %q, %d, %d", p, around, got, next, e)
			}
		}
	}
}

// P3.2: at below 0, and above the number of bytes, whatever these are; and at the end.
func TestGetBesideAll(t *testing.T) {
	for _, s := range []string{"", "\x00", "\xff", "\xf8\x01", byWords("a"), byWords("a")[:3], byWords(strings.Repeat("b", 300))} {
		for _, at := range []int{-1, -2, -6, -300, math.MinInt, math.MinInt + 1, len(s) + 1, len(s) + 2, math.MaxInt - 1, math.MaxInt} {
			bad(t, s, at, api.ErrArg)
		}
		bad(t, s, len(s), api.ErrNone)
	}
}

// P3.2: each reason of what is bad, of texts that have reasons behind it too.
func TestReasonsInOrder(t *testing.T) {
	long := strings.Repeat("x", 301)
	for _, c := range []struct {
		s string
		e api.Errno
	}{
		// The number is cut: whatever its bytes are so far.
		{"\xf8", api.ErrShort},
		{"\xf9", api.ErrShort},
		{"\xf9\x00", api.ErrShort},
		{"\xf9\x2c", api.ErrShort},
		{"\xff\x00\x00\x00\x00\x00\x00\x00", api.ErrShort},
		{"\xff\xff\xff\xff\xff\xff\xff\xff", api.ErrShort},
		// It has more bytes than it needs, though it is 0, or above what may be, or all else is whole.
		{"\xf8\x00", api.ErrForm},
		{"\xf8\xf7", api.ErrForm},
		{"\xf9\xff\x00", api.ErrForm},
		{"\xfa\x2c\x01\x00", api.ErrForm},
		{"\xfa\x2d\x01\x00", api.ErrForm},
		{"\xff\xff\xff\xff\xff\xff\xff\xff\x00", api.ErrForm},
		{"\xff\x00\x00\x00\x00\x00\x00\x00\x00", api.ErrForm},
		{sealed("\xf8\x01a"), api.ErrForm},
		{sealed("\xf9\x01\x00a"), api.ErrForm},
		{sealed("\xf8\x00"), api.ErrForm},
		// It is 0, or above what may be, though bytes lack, or all else is whole.
		{"\x00", api.ErrLong},
		{"\x00\x00\x00\x00\x00", api.ErrLong},
		{sealed("\x00"), api.ErrLong},
		{"\xf9\x2d\x01", api.ErrLong},
		{"\xf9\xff\xff", api.ErrLong},
		{byWords(long), api.ErrLong},
		{byWords(long)[:100], api.ErrLong},
		{"\xfa\x01\x00\x01", api.ErrLong},
		{sealed("\xfa\x01\x00\x01a"), api.ErrLong},
		{"\xfb\x05\x00\x00\x01", api.ErrLong},
		{sealed("\xfc\x01\x00\x00\x00\x01a"), api.ErrLong},
		{sealed("\xff\x01\x00\x00\x00\x00\x00\x00\x80a"), api.ErrLong},
		{"\xff\xff\xff\xff\xff\xff\xff\xff\xff", api.ErrLong},
		{"\xff\xff\xff\xff\xff\xff\xff\xff\x7f", api.ErrLong},
		// Fewer bytes are left than the frame has, though the sum could be no other.
		{"\x01", api.ErrShort},
		{"\x01a", api.ErrShort},
		{"\x01a\x00\x00\x00", api.ErrShort},
		{"\xf7", api.ErrShort},
		{"\xf8\xf8", api.ErrShort},
		{"\xf9\x2c\x01", api.ErrShort},
		{sealed("\x02a"), api.ErrShort},
		// The sum is another one.
		{"\x01a\x00\x00\x00\x00", api.ErrSum},
		{"\x01" + sealed("a"), api.ErrSum},
		{"\x02" + byWords("a")[1:] + "x", api.ErrSum},
		{"\x01b" + byWords("a")[2:], api.ErrSum},
	} {
		bad(t, c.s, 0, c.e)
		bad(t, "\xffahead"+c.s, 6, c.e)
		// What stands ahead of it is read all the same.
		ahead := byWords("one") + byWords("two")
		checkAll(t, ahead+c.s, []string{"one", "two"}, len(ahead), c.e)
		checkAll(t, c.s, nil, 0, c.e)
	}
}

// P3.2: what comes behind something bad changes no reason but that bytes lack, and is not read.
func TestBadEndsAll(t *testing.T) {
	one, behind := byWords("one"), byWords("behind")
	for _, c := range []struct {
		bad string
		e   api.Errno
	}{
		{"\x00", api.ErrLong},
		{"\xf8\x01", api.ErrForm},
		{"\xf9\x2d\x01", api.ErrLong},
		{"\x01a\x00\x00\x00\x00", api.ErrSum},
		{"\xf7", api.ErrShort},
	} {
		checkAll(t, one+c.bad+behind, []string{"one"}, len(one), c.e)
		checkAll(t, c.bad+one+behind, nil, 0, c.e)
	}
}

// P3.2: all texts of up to two bytes, and many of three, at all places and beside them.
func TestGetByWords(t *testing.T) {
	tellsByWords(t, "")
	for a := range 256 {
		tellsByWords(t, string([]byte{byte(a)}))
		for b := range 256 {
			tellsByWords(t, string([]byte{byte(a), byte(b)}))
		}
	}
	for _, a := range []byte{0, 1, 247, 248, 249, 250} {
		for b := range 256 {
			for c := range 256 {
				tellsByWords(t, string([]byte{a, byte(b), byte(c)}))
			}
		}
	}
}

// P3.2: payloads of any numbers that two or three bytes tell, if their frames are whole but for what they may be.
func TestGetByNumber(t *testing.T) {
	tail := strings.Repeat("t", 600)
	for n := range 600 {
		f := byWords(tail[:n])
		e := api.OK
		if n == 0 || n > 300 {
			e = api.ErrLong
		}
		if got, _, is := frame.Get(f, 0); is != e || e == api.OK && got != tail[:n] {
			t.Errorf("Get of a frame of %d is %d, not %d", n, is, e)
		}
	}
}

// P3.2: a bit or a byte is another one: no frame is had that was not put, and the reason is the first one.
func TestTurned(t *testing.T) {
	n := numbers(2)
	for _, size := range edges {
		f := byWords(n.text(size))
		for i := range 8 * len(f) {
			b := []byte(f)
			b[i/8] ^= 1 << (i % 8)
			turnedIsBad(t, string(b), i/8)
		}
		for i := range f {
			for range 8 {
				b := []byte(f)
				b[i] += byte(1 + n.below(255))
				turnedIsBad(t, string(b), i)
			}
		}
	}
}

func turnedIsBad(t *testing.T, s string, i int) {
	t.Helper()
	if p, _, e := frame.Get(s, 0); e == api.OK {
		t.Errorf("with another byte %d there is %q", i, p)
	}
	tells(t, s, 0)
	l, good, e := allOf(s)
	checkAll(t, s, l, good, e)
}

// P3.2: rows of frames, and the same with bytes changed, taken out and put in, are told as the words say.
func TestAnyBytes(t *testing.T) {
	n := numbers(3)
	for range 3000 {
		var b []byte
		for range 1 + n.below(4) {
			size := 1 + n.below(8)
			if n.below(8) == 0 {
				size = 240 + n.below(70)
			}
			b = append(b, byWords(n.text(size))...)
		}
		tellsByWords(t, string(b))
		for range 1 + n.below(3) {
			switch i := n.below(len(b)); n.below(4) {
			case 0:
				b[i] = byte(n.below(256))
			case 1:
				b = slices.Delete(b, i, i+1)
			case 2:
				b = slices.Insert(b, i, byte(n.below(256)))
			default:
				b[i] = "\x00\x01\xf7\xf8\xf9\xff"[n.below(6)]
			}
		}
		tellsByWords(t, string(b))
	}
}

// P3.3: rows of frames, cut anywhere: those are read that are whole, and what is cut is short.
func TestCut(t *testing.T) {
	n := numbers(4)
	rows := [][]int{{1}, {247}, {248}, {255}, {256}, {300}, {1, 1, 1}, {3, 248, 5}, {300, 1}, {247, 256, 248}, {1, 300, 300, 2}, {}}
	for _, sizes := range rows {
		var all string
		var l []string
		ends := []int{0}
		for _, size := range sizes {
			p := n.text(size)
			f, e := frame.Put(p)
			if e != api.OK {
				t.Fatalf("Put(%q) is %d", p, e)
			}
			all += f
			l = append(l, p)
			ends = append(ends, len(all))
		}
		for cut := 0; cut <= len(all); cut++ {
			whole, between := slices.BinarySearch(ends, cut)
			e := api.OK
			if !between {
				whole--
				e = api.ErrShort
				bad(t, all[:cut], ends[whole], e)
			}
			checkAll(t, all[:cut], l[:whole], ends[whole], e)
		}
	}
}

// P3.2 and P3.3: a long row of frames is read whole, in order.
func TestLongRow(t *testing.T) {
	l := payloads()
	var b strings.Builder
	for _, p := range l {
		b.WriteString(byWords(p))
	}
	checkAll(t, b.String(), l, b.Len(), api.OK)
}

// P1: at all arguments each call ends.
func TestAnyArguments(t *testing.T) {
	texts := []string{"", "\x00", strings.Repeat("\xff", 400), strings.Repeat("\x00", 400), strings.Repeat("\x01", 400), strings.Repeat("\xf7", 400), strings.Repeat("\xf9\x2c\x01", 400)}
	for _, s := range texts {
		frame.Put(s)
		frame.Size(s)
		tellsByWords(t, s)
		for _, at := range []int{math.MinInt, math.MinInt / 2, -1, math.MaxInt / 2, math.MaxInt} {
			bad(t, s, at, api.ErrArg)
		}
	}
}

// What is answered is the caller's: it shares no memory with what was handed in, nor with another answer.
func TestAnswersAreNew(t *testing.T) {
	s := byWords("one") + byWords(strings.Repeat("two", 100))
	inside := func(p string) bool {
		first, at := uintptr(unsafe.Pointer(unsafe.StringData(s))), uintptr(unsafe.Pointer(unsafe.StringData(p)))
		return at >= first && at < first+uintptr(len(s))
	}
	if p, _, e := frame.Get(s, 0); e != api.OK || inside(p) {
		t.Errorf("Get is %q, %d, and new: %v", p, e, !inside(p))
	}
	l, _, _ := frame.All(s)
	for i, p := range l {
		if inside(p) {
			t.Errorf("payload %d is not new", i)
		}
	}
	m, _, _ := frame.All(s)
	l[0] = "other"
	if m[0] != "one" {
		t.Error("two answers share a list")
	}
}

// bad finds out whether at that place there is nothing, for that reason.
func bad(t *testing.T, s string, at int, want api.Errno) {
	t.Helper()
	if p, next, e := frame.Get(s, at); p != "" || next != at || e != want {
		t.Errorf("Get(% x, %d) is %q, %d, %d, not %d", s, at, p, next, e, want)
	}
}

// checkAll finds out whether all is that.
func checkAll(t *testing.T, s string, want []string, wantGood int, wantE api.Errno) {
	t.Helper()
	if l, good, e := frame.All(s); !slices.Equal(l, want) || good != wantGood || e != wantE {
		t.Errorf("All(% x) is %q, %d, %d, not %q, %d, %d", s, l, good, e, want, wantGood, wantE)
	}
}

// tells finds out whether at that place Get tells what stands there.
func tells(t *testing.T, s string, at int) {
	t.Helper()
	p, next, e := frame.Get(s, at)
	if wantP, wantNext, wantE := stands(s, at); p != wantP || next != wantNext || e != wantE {
		t.Errorf("Get(% x, %d) is %q, %d, %d, not %q, %d, %d", s, at, p, next, e, wantP, wantNext, wantE)
	}
}

// tellsByWords finds out whether of all places of s, and of those beside them, what stands there is told.
func tellsByWords(t *testing.T, s string) {
	t.Helper()
	for at := -1; at <= len(s)+1; at++ {
		tells(t, s, at)
	}
	l, good, e := allOf(s)
	checkAll(t, s, l, good, e)
}
