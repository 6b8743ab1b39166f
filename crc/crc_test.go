package crc_test

import (
	"strings"
	"testing"
	"unsafe"

	"cedilla/crc"
)

// byWords is the sum as the chapter's words tell it, bit by bit.
func byWords(s string) uint32 {
	n := ^uint32(0)
	for i := 0; i < 8*len(s); i++ {
		unlike := n&1 != bitAt(s, i)
		n >>= 1
		if unlike {
			n ^= 0xEDB88320
		}
	}
	return ^n
}

// bitAt is bit i of the row of bits of s.
func bitAt(s string, i int) uint32 { return uint32(s[i/8]) >> (i % 8) & 1 }

// turn is s with the bits from place at on turned where the mask has a 1, its lowest bit first.
func turn(s string, at int, mask uint32) string {
	b := []byte(s)
	for i := 0; i < 32 && mask>>i != 0; i++ {
		if mask>>i&1 == 1 {
			b[(at+i)/8] ^= 1 << ((at + i) % 8)
		}
	}
	return string(b)
}

// numbers makes the same row of numbers in each run.
type numbers uint64

func (n *numbers) next() uint32 {
	*n = *n*6364136223846793005 + 1442695040888963407
	return uint32(*n >> 32)
}

func (n *numbers) text(size int) string {
	b := make([]byte, size)
	for i := range b {
		b[i] = byte(n.next())
	}
	return string(b)
}

// texts are ordinary ones, edges, and some of all small lengths.
func texts() []string {
	l := []string{
		"", "a", "b", "abc", "123456789", "hello", "words", "\x00", "\x00\x00\x00\x00", "\xff\xff\xff\xff",
		"\xff", "\x80", "\x01", "na\xc3\xafve", strings.Repeat("\x00", 100), strings.Repeat("\xff", 255),
		strings.Repeat("cedilla ", 1000),
	}
	n := numbers(1)
	for size := range 70 {
		l = append(l, n.text(size))
	}
	return l
}

// P1.1 and the chapter's examples.
func TestExamples(t *testing.T) {
	for _, c := range []struct {
		s    string
		want uint32
	}{{"", 0}, {"a", 0xe8b7be43}, {"123456789", 0xcbf43926}} {
		if n := crc.Sum(c.s); n != c.want {
			t.Errorf("Sum(%q) is %x, not %x", c.s, n, c.want)
		}
	}
	if s, want := crc.Seal("123456789"), "\x31\x32\x33\x34\x35\x36\x37\x38\x39\x26\x39\xf4\xcb"; s != want {
		t.Errorf("Seal is % x, not % x", s, want)
	}
	if s, is := crc.Open("\x00\x00\x00\x00"); s != "" || !is {
		t.Errorf("Open of four bytes 0 is %q, %v", s, is)
	}
	if s, is := crc.Open("abc"); s != "" || is {
		t.Errorf("Open of abc is %q, %v", s, is)
	}
}

// P1.1: Sum is what the words say.
func TestSumByWords(t *testing.T) {
	for _, s := range texts() {
		if n, want := crc.Sum(s), byWords(s); n != want {
			t.Errorf("Sum(%q) is %x, not %x", s, n, want)
		}
	}
	for a := range 256 {
		if s := string([]byte{byte(a)}); crc.Sum(s) != byWords(s) {
			t.Errorf("Sum(%q) is %x, not %x", s, crc.Sum(s), byWords(s))
		}
		for b := range 256 {
			if s := string([]byte{byte(a), byte(b)}); crc.Sum(s) != byWords(s) {
				t.Errorf("Sum(%q) is %x, not %x", s, crc.Sum(s), byWords(s))
			}
		}
	}
}

// P1.1: a seal is the bytes, and their sum with the lowest byte first; it opens to the bytes.
func TestSealOpens(t *testing.T) {
	for _, s := range texts() {
		n := byWords(s)
		want := s + string([]byte{byte(n), byte(n >> 8), byte(n >> 16), byte(n >> 24)})
		if got := crc.Seal(s); got != want {
			t.Errorf("Seal(%q) is % x, not % x", s, got, want)
		}
		if got, is := crc.Open(want); got != s || !is {
			t.Errorf("Open of the seal of %q is %q, %v", s, got, is)
		}
		if twice := crc.Seal(want); twice[:len(want)] != want {
			t.Errorf("the seal of a seal of %q does not begin with it", s)
		} else if got, is := crc.Open(twice); got != want || !is {
			t.Errorf("the seal of a seal of %q opens to %q, %v", s, got, is)
		}
	}
}

// P1.1: fewer than four bytes are the seal of nothing, and four are only if they are 0.
func TestOpenShort(t *testing.T) {
	for _, s := range []string{"", "\x00", "\x00\x00", "\x00\x00\x00", "a", "ab", "abc", "\xff\xff\xff"} {
		refused(t, s)
	}
	for i := range 32 {
		refused(t, turn("\x00\x00\x00\x00", i, 1))
	}
	for _, s := range []string{"abcd", "\xff\xff\xff\xff", "\x00\x00\x00\x01"} {
		refused(t, s)
	}
}

// P1.1: with another sum behind them bytes are the seal of nothing.
func TestOpenOtherSum(t *testing.T) {
	l := texts()
	for i, s := range l {
		n := crc.Sum(s)
		for _, other := range []uint32{n + 1, n - 1, ^n, n ^ 1<<31, n<<8 | n>>24, crc.Sum(s + "x")} {
			if other != n {
				refused(t, s+string([]byte{byte(other), byte(other >> 8), byte(other >> 16), byte(other >> 24)}))
			}
		}
		if high := string([]byte{byte(n >> 24), byte(n >> 16), byte(n >> 8), byte(n)}); crc.Seal(s) != s+high {
			refused(t, s+high)
		}
		if next := l[(i+1)%len(l)]; crc.Sum(next) != n {
			sealed := crc.Seal(next)
			refused(t, s+sealed[len(sealed)-4:])
		}
		sealed := crc.Seal(s)
		refused(t, sealed[:len(sealed)-1])
		refused(t, sealed+"x")
		if s != "" {
			refused(t, sealed[1:])
		}
	}
}

// What is answered shares no memory with what was handed in.
func TestAnswersAreNew(t *testing.T) {
	sealed := crc.Seal("hello")
	s, is := crc.Open(sealed)
	if !is || unsafe.StringData(s) == unsafe.StringData(sealed) {
		t.Errorf("Open is %q, %v, and new: %v", s, is, unsafe.StringData(s) != unsafe.StringData(sealed))
	}
	if twice := crc.Seal(sealed); unsafe.StringData(twice) == unsafe.StringData(sealed) {
		t.Error("Seal is not new")
	}
}

// P1.2: wherever bytes are cut, More of the sum of the first is the sum of all.
func TestMore(t *testing.T) {
	for _, s := range texts() {
		want := byWords(s)
		for i := 0; i <= min(len(s), 300); i++ {
			if n := crc.More(byWords(s[:i]), s[i:]); n != want {
				t.Errorf("More of %q behind %q is %x, not %x", s[i:], s[:i], n, want)
			}
		}
		n := uint32(0)
		for i := range len(s) {
			n = crc.More(n, s[i:i+1])
		}
		if n != want {
			t.Errorf("More of %q byte by byte is %x, not %x", s, n, want)
		}
	}
}

// P1.2: nothing more changes no sum; and any number is the sum of some bytes, so that it may be gone on from.
func TestMoreOfAnySum(t *testing.T) {
	rand := numbers(2)
	sums := []uint32{0, 1, 1 << 31, 0xEDB88320, 1<<32 - 1}
	for range 1000 {
		sums = append(sums, rand.next())
	}
	for _, sum := range sums {
		if n := crc.More(sum, ""); n != sum {
			t.Errorf("More(%x) of nothing is %x", sum, n)
		}
		head := headOf(sum)
		if n := crc.Sum(head); n != sum {
			t.Fatalf("Sum(% x) is %x, not %x", head, n, sum)
		}
		if n, want := crc.More(sum, "more"), byWords(head+"more"); n != want {
			t.Errorf("More(%x) is %x, not %x", sum, n, want)
		}
	}
}

// headOf is the four bytes of which sum is the sum: the number is moved up again, 32 times.
func headOf(sum uint32) string {
	n := ^sum
	for range 32 {
		if n>>31 == 1 {
			n = (n^0xEDB88320)<<1 | 1
		} else {
			n <<= 1
		}
	}
	n = ^n
	return string([]byte{byte(n), byte(n >> 8), byte(n >> 16), byte(n >> 24)})
}

// P1.3: short bursts in short seals, all of them.
func TestBurstsShort(t *testing.T) {
	for _, s := range []string{"", "a", "words"} {
		sealed := crc.Seal(s)
		for at := range 8 * len(sealed) {
			for mask := uint32(1); mask < 1<<10 && mask>>(8*len(sealed)-at) == 0; mask += 2 {
				refused(t, turn(sealed, at, mask))
			}
		}
	}
}

// P1.3: bursts up to the full width, at each place of a longer seal.
func TestBurstsWide(t *testing.T) {
	rand := numbers(3)
	for _, s := range []string{"", "a", rand.text(40), strings.Repeat("\x00", 40)} {
		sealed := crc.Seal(s)
		for at := 0; at+32 <= 8*len(sealed); at++ {
			masks := []uint32{1<<32 - 1, 1<<31 | 1, 1 << 31, 0xEDB88320, 0x82608EDB, 0x04C11DB7, 0xDB710641}
			for range 100 {
				masks = append(masks, rand.next()|1)
			}
			for _, mask := range masks {
				refused(t, turn(sealed, at, mask))
			}
		}
	}
}

// P1.3: no two ways to turn bits within 32 neighbours change a seal's sum alike, so none of them leaves it as it was. It is enough that what the 32 bits change, one by one, can't be made of one another, since sums go together bit by bit.
func TestBurstsAll(t *testing.T) {
	rand := numbers(4)
	sealed := crc.Seal(rand.text(60))
	miss := make([]uint32, 8*len(sealed))
	for i := range miss {
		miss[i] = missOf(turn(sealed, i, 1))
	}
	for at := 0; at+32 <= len(miss); at++ {
		if n := rank(miss[at : at+32]); n != 32 {
			t.Errorf("of the bits from %d on only %d of 32 count", at, n)
		}
	}
}

// missOf is in which bits a text's last four bytes are unlike the sum of those ahead.
func missOf(s string) uint32 {
	n := len(s) - 4
	last := uint32(s[n]) | uint32(s[n+1])<<8 | uint32(s[n+2])<<16 | uint32(s[n+3])<<24
	return last ^ crc.Sum(s[:n])
}

// rank is how many of the numbers can't be made of those ahead of them, bit by bit.
func rank(l []uint32) int {
	var highest [32]uint32
	n := 0
	for _, x := range l {
		for i := 31; i >= 0 && x != 0; i-- {
			if x>>i&1 == 0 {
				continue
			}
			if highest[i] == 0 {
				highest[i] = x
				n++
				break
			}
			x ^= highest[i]
		}
	}
	return n
}

// P1.3: three texts of one length, bit by bit.
func TestThreeTexts(t *testing.T) {
	rand := numbers(5)
	check := func(a, b, c string) {
		l := make([]byte, len(a))
		for i := range l {
			l[i] = a[i] ^ b[i] ^ c[i]
		}
		if n, want := crc.Sum(string(l)), crc.Sum(a)^crc.Sum(b)^crc.Sum(c); n != want {
			t.Errorf("of %q, %q, %q: %x, not %x", a, b, c, n, want)
		}
	}
	for size := range 70 {
		for range 10 {
			check(rand.text(size), rand.text(size), rand.text(size))
		}
		same := rand.text(size)
		check(same, same, rand.text(size))
		check(strings.Repeat("\x00", size), strings.Repeat("\xff", size), same)
	}
	check("cat", "dog", "bee")
	check("", "", "")
}

func refused(t *testing.T, s string) {
	t.Helper()
	if w, is := crc.Open(s); w != "" || is {
		t.Errorf("Open(% x) is %q, %v", s, w, is)
	}
}
