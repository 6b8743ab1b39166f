package vary_test

import (
	"math"
	"slices"
	"strings"
	"testing"

	"cedilla/api"
	"cedilla/vary"
)

// byWords is the bytes of a number as the chapter's words tell them.
func byWords(n uint64) string {
	if n < 248 {
		return string([]byte{byte(n)})
	}
	b := []byte{247}
	for ; n > 0; n /= 256 {
		b[0]++
		b = append(b, byte(n%256))
	}
	return string(b)
}

// hadByWords is what Get answers, as the chapter's words tell it.
func hadByWords(s string, at int) (uint64, int, api.Errno) {
	if at < 0 || at >= len(s) {
		return 0, at, api.ErrShort
	}
	first := int(s[at])
	if first < 248 {
		return uint64(first), at + 1, api.OK
	}
	behind := at + 1 + first - 247
	if behind > len(s) {
		return 0, at, api.ErrShort
	}
	n := uint64(0)
	for i := behind - 1; i > at; i-- {
		n = n*256 + uint64(s[i])
	}
	if byWords(n) != s[at:behind] {
		return 0, at, api.ErrForm
	}
	return n, behind, api.OK
}

// numbers are edges and ordinary ones, rising, each once.
func numbers() []uint64 {
	var l []uint64
	for n := range uint64(1000) {
		l = append(l, n)
	}
	for i := range 64 {
		for n := range uint64(7) {
			l = append(l, uint64(1)<<i+n-3, uint64(1)<<i*3+n-3)
		}
		l = append(l, 0xfedcba9876543210>>i, 0x0123456789abcdef<<i, math.MaxUint64>>i, math.MaxUint64<<i)
	}
	for n := uint64(1); n < 1<<63/10; n = n*10 + n%7 {
		l = append(l, n, n*9)
	}
	slices.Sort(l)
	return slices.Compact(l)
}

// tails tells all texts of that many bytes, of which each is 0, 1, f7, or ff.
func tails(many int) []string {
	l := []string{""}
	for range many {
		var longer []string
		for _, s := range l {
			for _, b := range []string{"\x00", "\x01", "\xf7", "\xff"} {
				longer = append(longer, s+b)
			}
		}
		l = longer
	}
	return l
}

// P2.1 and the chapter's examples.
func TestExamplesOfPut(t *testing.T) {
	for _, c := range []struct {
		l    []uint64
		want string
	}{
		{[]uint64{0}, "\x00"},
		{[]uint64{247}, "\xf7"},
		{[]uint64{248}, "\xf8\xf8"},
		{[]uint64{255}, "\xf8\xff"},
		{[]uint64{256}, "\xf9\x00\x01"},
		{[]uint64{300}, "\xf9\x2c\x01"},
		{[]uint64{math.MaxUint64}, "\xff\xff\xff\xff\xff\xff\xff\xff\xff"},
		{[]uint64{1, 300}, "\x01\xf9\x2c\x01"},
		{nil, ""},
		{[]uint64{}, ""},
	} {
		if s := vary.Put(c.l...); s != c.want {
			t.Errorf("Put(%v) is % x, not % x", c.l, s, c.want)
		}
	}
	if s := vary.Put(); s != "" {
		t.Errorf("Put() is % x", s)
	}
}

// P2.2 and the chapter's examples.
func TestExamplesOfGet(t *testing.T) {
	for _, c := range []struct {
		s    string
		at   int
		n    uint64
		next int
		e    api.Errno
	}{
		{"\xf8\x05", 0, 0, 0, api.ErrForm},
		{"\xf9\x01\x00", 0, 0, 0, api.ErrForm},
		{"\xf9\x01", 0, 0, 0, api.ErrShort},
		{"", 0, 0, 0, api.ErrShort},
		{"\x01\xf9\x2c\x01", 0, 1, 1, api.OK},
		{"\x01\xf9\x2c\x01", 1, 300, 4, api.OK},
		{"\x01\xf9\x2c\x01", 2, 44, 3, api.OK},
		{"\x01\xf9\x2c\x01", 4, 0, 4, api.ErrShort},
		{"\x01\xf9\x2c\x01", 5, 0, 5, api.ErrShort},
		{"\x01\xf9\x2c\x01", -1, 0, -1, api.ErrShort},
	} {
		if n, next, e := vary.Get(c.s, c.at); n != c.n || next != c.next || e != c.e {
			t.Errorf("Get(% x, %d) is %d, %d, %d", c.s, c.at, n, next, e)
		}
	}
}

// P2.1: a number's bytes, and how many they are.
func TestPutOfOne(t *testing.T) {
	for _, n := range numbers() {
		want := byWords(n)
		if s := vary.Put(n); s != want {
			t.Errorf("Put(%d) is % x, not % x", n, s, want)
		}
		if size := vary.Size(n); size != len(want) {
			t.Errorf("Size(%d) is %d, not %d", n, size, len(want))
		}
	}
}

// P2.1: the least and the greatest number of each number of bytes, by hand.
func TestSizeAtEdges(t *testing.T) {
	edges := []uint64{0, 248, 1 << 8, 1 << 16, 1 << 24, 1 << 32, 1 << 40, 1 << 48, 1 << 56}
	for i, n := range edges {
		size := i + 1
		if got := vary.Size(n); got != size {
			t.Errorf("Size(%d) is %d, not %d", n, got, size)
		}
		last := uint64(math.MaxUint64)
		if i+1 < len(edges) {
			last = edges[i+1] - 1
		}
		if got := vary.Size(last); got != size {
			t.Errorf("Size(%d) is %d, not %d", last, got, size)
		}
	}
}

// P2.1: many numbers are one behind the other, and stay as they are.
func TestPutOfMany(t *testing.T) {
	l := numbers()
	slices.Reverse(l)
	kept := slices.Clone(l)
	for many := 0; many <= len(l); many += 1 + many/3 {
		var want strings.Builder
		for _, n := range l[:many] {
			want.WriteString(byWords(n))
		}
		if s := vary.Put(l[:many]...); s != want.String() {
			t.Errorf("Put of %d numbers is % x, not % x", many, s, want.String())
		}
	}
	if !slices.Equal(l, kept) {
		t.Error("Put changes what it is handed")
	}
}

// P2.2 and P2.4: what is put is had, wherever it stands, and whatever is around it.
func TestGetOfPut(t *testing.T) {
	for _, n := range numbers() {
		s := vary.Put(n)
		for _, around := range []string{"", "\x00", "\xff", "\xf8", "\xf9\x01", "words"} {
			m, next, e := vary.Get(around+s+around, len(around))
			if m != n || next != len(around)+len(s) || e != api.OK {
				t.Errorf("Get of %d among % x is %d, %d, %d", n, around, m, next, e)
			}
		}
	}
}

// P2.2: of all texts of up to three bytes, and of many longer ones, each place, and places beside them.
func TestGetByWords(t *testing.T) {
	checkGet(t, "")
	for a := range 256 {
		for m := range 3 {
			for _, tail := range tails(m) {
				checkGet(t, string([]byte{byte(a)})+tail)
			}
		}
		for b := range 256 {
			checkGet(t, string([]byte{byte(a), byte(b)}))
		}
	}
	for b := range 256 {
		for c := range 256 {
			checkGet(t, string([]byte{0xf9, byte(b), byte(c)}))
		}
	}
	for m := range 8 {
		for _, tail := range tails(m) {
			for a := 247; a < 256; a++ {
				checkGet(t, string([]byte{byte(a)})+tail)
			}
		}
	}
	for _, tail := range tails(8) {
		checkGet(t, "\xff"+tail)
	}
}

func checkGet(t *testing.T, s string) {
	t.Helper()
	for at := -1; at <= len(s)+1; at++ {
		n, next, e := vary.Get(s, at)
		if wantN, wantNext, wantE := hadByWords(s, at); n != wantN || next != wantNext || e != wantE {
			t.Errorf("Get(% x, %d) is %d, %d, %d, not %d, %d, %d", s, at, n, next, e, wantN, wantNext, wantE)
		}
		// P2.4: what is had is put just so.
		if e == api.OK && vary.Put(n) != s[at:next] {
			t.Errorf("Get(% x, %d) is %d, which is put as % x", s, at, n, vary.Put(n))
		}
	}
}

// P2.2: numbers cut short, each anywhere.
func TestGetOfCut(t *testing.T) {
	for _, n := range numbers() {
		s := vary.Put(n)
		for cut := range len(s) {
			for _, ahead := range []string{"", "x", "\xff\x00"} {
				m, next, e := vary.Get(ahead+s[:cut], len(ahead))
				if m != 0 || next != len(ahead) || e != api.ErrShort {
					t.Errorf("Get of %d, cut to %d bytes, is %d, %d, %d", n, cut, m, next, e)
				}
			}
		}
	}
}

// P2.2: numbers with more bytes than they need; and, cut, they are short first.
func TestGetOfMoreBytes(t *testing.T) {
	for _, n := range numbers() {
		least := vary.Size(n) - 1
		tail := vary.Put(n)[1:]
		if n < 248 {
			tail = string([]byte{byte(n)})
			least = 0
		}
		for m := least + 1; m <= 8; m++ {
			s := string([]byte{byte(247 + m)}) + tail + strings.Repeat("\x00", m-len(tail))
			if got, next, e := vary.Get("x"+s+"y", 1); got != 0 || next != 1 || e != api.ErrForm {
				t.Errorf("Get of % x is %d, %d, %d", s, got, next, e)
			}
			if got, next, e := vary.Get("x"+s[:len(s)-1], 1); got != 0 || next != 1 || e != api.ErrShort {
				t.Errorf("Get of % x is %d, %d, %d", s[:len(s)-1], got, next, e)
			}
		}
	}
}

// P2.3: rows of each length, from each of their numbers on, with something behind them.
func TestRow(t *testing.T) {
	l := numbers()
	slices.Reverse(l)
	l = l[len(l)/2-20 : len(l)/2+20]
	l = append(l, 0, 247, 248, math.MaxUint64)
	for from := range l {
		ahead := vary.Put(l[:from]...)
		for to := from; to <= len(l); to++ {
			s := ahead + vary.Put(l[from:to]...)
			for _, behind := range []string{"", "\x00", "\xff", "\xf8\x05"} {
				got, next, e := vary.Row(s+behind, len(ahead), to-from)
				if !slices.Equal(got, l[from:to]) || next != len(s) || e != api.OK {
					t.Errorf("Row from %d to %d is %v, %d, %d", from, to, got, next, e)
				}
			}
		}
	}
}

// P2.3: many below 1 asks for nothing, wherever it is asked.
func TestRowOfNone(t *testing.T) {
	for _, s := range []string{"", "\x01", "\xff", "\xf8\x05", "\x01\xf9\x2c\x01"} {
		for _, many := range []int{0, -1, -2, math.MinInt} {
			for _, at := range []int{0, 1, 2, 5, -1, -5, math.MinInt, math.MaxInt} {
				if l, next, e := vary.Row(s, at, many); len(l) != 0 || next != at || e != api.OK {
					t.Errorf("Row(% x, %d, %d) is %v, %d, %d", s, at, many, l, next, e)
				}
			}
		}
	}
}

// P2.3: where one can't be had, there is none, and its place and its error are told.
func TestRowThatEnds(t *testing.T) {
	head := []uint64{7, 248, 0, 300, math.MaxUint64}
	for have := range len(head) + 1 {
		good := vary.Put(head[:have]...)
		for _, c := range []struct {
			bad string
			e   api.Errno
		}{
			{"", api.ErrShort},
			{"\xf8", api.ErrShort},
			{"\xf9\x01", api.ErrShort},
			{"\xff\x00\x00\x00\x00\x00\x00\x00", api.ErrShort},
			{"\xf8\x05", api.ErrForm},
			{"\xf8\x05\x01\x02\x03", api.ErrForm},
			{"\xf9\x01\x00", api.ErrForm},
			{"\xff\xff\xff\xff\xff\xff\xff\xff\x00", api.ErrForm},
		} {
			for _, more := range []int{1, 2, 1000000, math.MaxInt - have} {
				l, next, e := vary.Row("xyz"+good+c.bad, 3, have+more)
				if len(l) != 0 || next != 3+len(good) || e != c.e {
					t.Errorf("Row of %d and % x is %v, %d, %d", have, c.bad, l, next, e)
				}
			}
		}
	}
}

// P2.3: at below 0, at the end, and behind it.
func TestRowBesideAll(t *testing.T) {
	for _, s := range []string{"", "\x01", "\x01\xf9\x2c\x01"} {
		for _, at := range []int{-1, -100, math.MinInt, len(s), len(s) + 1, math.MaxInt} {
			for _, many := range []int{1, 2, math.MaxInt} {
				if l, next, e := vary.Row(s, at, many); len(l) != 0 || next != at || e != api.ErrShort {
					t.Errorf("Row(% x, %d, %d) is %v, %d, %d", s, at, many, l, next, e)
				}
			}
		}
	}
}

// P1: at all places Get ends, and tells what is so.
func TestGetBesideAll(t *testing.T) {
	for _, s := range []string{"", "\x01", "\xff", "\xff\xff\xff\xff\xff\xff\xff\xff\xff"} {
		for _, at := range []int{-1, -9, math.MinInt, len(s), len(s) + 1, len(s) + 8, math.MaxInt - 8, math.MaxInt} {
			if n, next, e := vary.Get(s, at); n != 0 || next != at || e != api.ErrShort {
				t.Errorf("Get(% x, %d) is %d, %d, %d", s, at, n, next, e)
			}
		}
	}
}

// P2.4: a lesser number has no more bytes, and of two numbers' bytes none is the beginning of the other one's.
func TestNumbersAgainstEachOther(t *testing.T) {
	l := numbers()
	rows := make([]string, len(l))
	for i, n := range l {
		rows[i] = vary.Put(n)
		if i > 0 && len(rows[i-1]) > len(rows[i]) {
			t.Errorf("%d has more bytes than %d", l[i-1], n)
		}
	}
	// Sorted, a beginning stands right ahead of something that it begins.
	slices.Sort(rows)
	for i := 1; i < len(rows); i++ {
		if strings.HasPrefix(rows[i], rows[i-1]) {
			t.Errorf("% x is the beginning of % x", rows[i-1], rows[i])
		}
	}
}

// What is answered is the caller's: two rows share no memory.
func TestRowsAreNew(t *testing.T) {
	s := vary.Put(1, 2, 3)
	a, _, _ := vary.Row(s, 0, 3)
	b, _, _ := vary.Row(s, 0, 3)
	for i := range a {
		a[i] = 9
	}
	c, _, _ := vary.Row(s, 0, 3)
	if want := []uint64{1, 2, 3}; !slices.Equal(b, want) || !slices.Equal(c, want) {
		t.Errorf("rows are %v and %v", b, c)
	}
}
