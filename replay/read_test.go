package replay_test

import (
	"math"
	"slices"
	"strings"
	"testing"

	"cedilla/api"
	"cedilla/frame"
	"cedilla/replay"
	"cedilla/vary"
)

// reads finds out whether Read answers these entries, and so many good bytes.
func reads(t *testing.T, what, s string, l []api.Entry, good int) {
	t.Helper()
	got, many := replay.Read(s)
	if !slices.Equal(got, l) || many != good {
		t.Fatalf("%s: Read answers %d entries %.200v, %d; not %d entries %.200v, %d", what, len(got), got, many, len(l), l, good)
	}
}

// some are entries of all kinds: with weights of each number of bytes, gone, with words of one byte and of the most.
func some() []api.Entry {
	long := strings.Repeat("\xff", 255)
	return []api.Entry{
		a, b, c, a,
		{Word: "\x00", Weight: 0}, {Word: "\x01\x02", Weight: 247}, {Word: "x", Weight: 248}, {Word: "x", Weight: 65536},
		{Word: long, Weight: math.MaxUint32}, {Word: long, Gone: true}, {Word: "tea", Weight: 1 << 24},
	}
}

// noEntries are payloads that are no entry's bytes.
func noEntries() []string {
	long := strings.Repeat("l", 256)
	return []string{
		"\x00", "\x00a", "\x03", "\x03a", "a", "\xff\x01a",
		"\x01", "\x01\xf9", "\x01\xf9\x01", "\x01\xff1234567",
		"\x01\xf8\x01a", "\x01\xf9\x01\x00a", "\x01\xfb\x00\x00\x00\x00a",
		"\x01" + vary.Put(math.MaxUint32+1) + "a", "\x01" + vary.Put(math.MaxUint64) + "a",
		"\x01\x05", "\x01" + vary.Put(300), "\x02",
		"\x01\x05" + long, "\x02" + long,
	}
}

// noFrames are bytes at which no frame stands, whatever comes behind them.
func noFrames() []string {
	x := framed(a)
	return []string{
		"\x00", frameOf(""), frameOf(strings.Repeat("a", 301)), frameOf("\x01\x01" + strings.Repeat("a", 299)),
		"\xf8\x03" + x[1:], "\xf9\x03\x00" + x[1:], "\xff" + strings.Repeat("\xff", 12),
		x[:7] + string(x[7]^1), "\x03\x02\x01a" + x[4:], "\x03\x01\x01b" + x[4:], "\x04" + x[1:4] + "a" + x[4:],
	}
}

// The example of the chapter.
func TestReadExample(t *testing.T) {
	s := framed(a, b)
	if len(s) != 15 {
		t.Fatalf("the frames have %d bytes", len(s))
	}
	reads(t, "the example", s+"\x05", []api.Entry{a, b}, 15)
}

// P11.1: Read of no bytes, and of whole frames.
func TestReadWhole(t *testing.T) {
	reads(t, "no bytes", "", nil, 0)
	l := some()
	for many := range len(l) + 1 {
		s := framed(l[:many]...)
		reads(t, "whole frames", s, l[:many], len(s))
	}
	for i, e := range l {
		s := framed(e)
		reads(t, "one frame", s, l[i:i+1], len(s))
		reads(t, "a frame thrice", s+s+s, []api.Entry{e, e, e}, 3*len(s))
	}
	for size := 1; size <= 255; size++ {
		for _, e := range []api.Entry{{Word: strings.Repeat("w", size), Weight: uint32(size)}, {Word: strings.Repeat("w", size), Gone: true}} {
			s := framed(e)
			reads(t, "a word of each size", s, []api.Entry{e}, len(s))
		}
	}
}

// P11.1: what Read answers is what frame made.
func TestReadOfPut(t *testing.T) {
	s := ""
	for _, e := range some() {
		f, why := frame.Put(bytesOf(e))
		if why != api.OK {
			t.Fatal(why)
		}
		s += f
	}
	reads(t, "frames that were put", s, some(), len(s))
}

// P11.1: frames that are cut at each byte.
func TestReadCut(t *testing.T) {
	l := some()
	s := framed(l...)
	good, whole := 0, 0
	for at := range len(s) + 1 {
		if whole < len(l) && at == good+len(framed(l[whole])) {
			good, whole = at, whole+1
		}
		reads(t, "cut", s[:at], l[:whole], good)
	}
	if whole != len(l) || good != len(s) {
		t.Fatalf("of %d frames %d were whole", len(l), whole)
	}
}

// P11.1: a byte that is changed, in each frame: what is ahead of that frame counts, nothing else.
func TestReadChanged(t *testing.T) {
	l := []api.Entry{a, b, {Word: strings.Repeat("long", 63), Weight: 1 << 20}, c, {Word: "d", Gone: true}}
	s := framed(l...)
	good, whole := 0, 0
	for at := range len(s) {
		if at == good+len(framed(l[whole])) {
			good, whole = at, whole+1
		}
		for _, by := range []byte{1, 2, 3, 7, 8, 16, 64, 127, 128, 255} {
			changed := []byte(s)
			changed[at] ^= by
			reads(t, "changed", string(changed), l[:whole], good)
		}
	}
}

// P11.1: a frame whose payload is no entry's bytes, and what is no frame, first, in the middle, last, and alone: what comes behind it does not count.
func TestReadBad(t *testing.T) {
	var bad []string
	for _, payload := range noEntries() {
		if p, next, e := frame.Get(frameOf(payload), 0); p != payload || e != api.OK || next != len(frameOf(payload)) {
			t.Fatalf("%q has no frame", payload)
		}
		bad = append(bad, frameOf(payload))
	}
	bad = append(bad, noFrames()...)
	l := []api.Entry{a, b, c, {Word: "tea", Weight: 9}}
	for _, x := range bad {
		for many := range len(l) + 1 {
			ahead := framed(l[:many]...)
			reads(t, "bad", ahead+x+framed(l[many:]...), l[:many], len(ahead))
			reads(t, "bad twice", ahead+x+framed(l[many:]...)+x, l[:many], len(ahead))
			reads(t, "bad, and no more", ahead+x, l[:many], len(ahead))
		}
	}
}

// P11.1: any bytes, held against the words.
func TestReadAny(t *testing.T) {
	n := numbers(11)
	bad := noFrames()
	for _, payload := range noEntries() {
		bad = append(bad, frameOf(payload))
	}
	for range 4000 {
		s := ""
		for range n.below(8) {
			switch n.below(9) {
			case 0:
				s += pick(&n, bad)
			case 1:
				s += string(rune(n.below(300)))
			default:
				s += framed(n.entries(4)...)
			}
		}
		switch n.below(4) {
		case 0:
			s = s[:n.below(len(s)+1)]
		case 1:
			s = s[n.below(len(s)+1):]
		case 2:
			at := n.below(len(s) + 1)
			s = s[:at] + string([]byte{byte(n.below(256))}) + s[at:]
		}
		l, good := readByWords(s)
		reads(t, "any bytes", s, l, good)
	}
	for range 3000 {
		raw := make([]byte, n.below(40))
		for i := range raw {
			raw[i] = byte(n.below(256))
		}
		l, good := readByWords(string(raw))
		reads(t, "any bytes at all", string(raw), l, good)
	}
}

// P11.1: of the good bytes alone the same is read, and nothing is bad.
func TestReadGoodAgain(t *testing.T) {
	s := framed(some()...)
	for at := range len(s) {
		l, good := replay.Read(s[:at] + "\x00" + s[at:])
		reads(t, "the good bytes", s[:good], l, good)
	}
}

// What Read answers is the caller's.
func TestReadIsNew(t *testing.T) {
	s := framed(a, b, c)
	l, _ := replay.Read(s)
	l[0], l[1].Word = c, "changed"
	_ = append(l[:1], a, a)
	reads(t, "again", s, []api.Entry{a, b, c}, len(s))
}

// P1: Read of very many frames, and of long bytes without one, ends soon enough.
func TestReadMany(t *testing.T) {
	const many = 300000
	s := strings.Repeat(framed(a), many)
	l, good := replay.Read(s + "\x03")
	if len(l) != many || good != len(s) || l[many-1] != a {
		t.Errorf("there are %d entries, %d good bytes", len(l), good)
	}
	for _, x := range []string{"\x00", "\x03", "\xff", "a"} {
		reads(t, "long bytes", strings.Repeat(x, 1<<24), nil, 0)
	}
}
