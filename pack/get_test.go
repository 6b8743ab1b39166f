package pack_test

import (
	"errors"
	"math"
	"strings"
	"testing"

	"cedilla/api"
	"cedilla/pack"
)

// got is Get's answer, whose error is a fault, or none.
func got(t *testing.T, s string) answer {
	t.Helper()
	entries, f, err := pack.Get(s)
	if err == nil {
		return answer{entries: entries, f: f}
	}
	fault, is := err.(*api.Fault)
	if !is || fault == nil {
		t.Fatalf("Get(%s) answers an error that is no fault: %v", toldBytes(s), err)
	}
	if fault.Code == api.OK || !errors.Is(err, fault.Code) {
		t.Fatalf("Get(%s) answers a fault %d", toldBytes(s), fault.Code)
	}
	if entries != 0 || len(f.States) != 0 || f.Init != 0 {
		t.Fatalf("beside a fault Get(%s) answers %d, %s", toldBytes(s), entries, told(f))
	}
	return answer{0, f, fault.Code, fault.At}
}

// comes finds out whether Get answers this.
func comes(t *testing.T, s string, want answer) {
	t.Helper()
	if a := got(t, s); !sameAnswer(a, want) {
		t.Fatalf("Get(%s) is %s, not %s", toldBytes(s), a, want)
	}
}

// read finds out whether Get answers of a seal of these bytes what the words say, and whether what is read is laid again just so; and is the answer.
func read(t *testing.T, body string) answer {
	t.Helper()
	s := sealed(body)
	want := byWords(s)
	comes(t, s, want)
	if want.code != api.OK {
		return want
	}
	if again, e := pack.Put(want.entries, want.f); again != s || e != api.OK {
		t.Fatalf("%s is laid again as %s, %d", toldBytes(s), toldBytes(again), e)
	}
	if n := pack.Size(want.entries, want.f); n != len(s) {
		t.Fatalf("of %s Size is %d, not %d", toldBytes(s), n, len(s))
	}
	return want
}

// faulty finds out whether Get answers of a seal of these bytes just this fault, and whether the words say so.
func faulty(t *testing.T, body string, code api.Errno, at int) {
	t.Helper()
	if a := read(t, body); a.code != code || a.at != at {
		t.Fatalf("Get of a seal of %s is %d at %d, not %d at %d", toldBytes(body), a.code, a.at, code, at)
	}
}

// samples are transducers that may be laid, with numbers of entries: all kinds of pieces, of all sizes.
func samples(t *testing.T) []answer {
	far := make([]api.State, 300)
	far[299] = state(arc('f', 1, 0), arc('n', 0, 298))
	return []answer{
		{entries: 0, f: fst(0, state())},
		{entries: 247, f: fst(5, final(248))},
		{entries: 1, f: built(t, api.Entry{Word: "a", Weight: 4})},
		{entries: 3, f: built(t, api.Entry{Word: "go", Weight: 9}, api.Entry{Word: "gone", Gone: true}, api.Entry{Word: "one", Weight: 2})},
		{entries: 300, f: some(final(math.MaxUint64, arc('b', 1<<40, 2), arc('b', 0, 0)))},
		{entries: 99999, f: fst(1<<16, final(300), state(arc(0xff, 256, 0)), final(math.MaxUint64, arc('b', 0, 0), arc('a', 248, 1)))},
		{entries: 100000, f: fst(math.MaxUint64, far...)},
		{entries: 9, f: fst(0, state(), state(arcs(123)...), final(1, arcs(124)...), final(7))},
	}
}

// P15.2: the examples of the chapter.
func TestExamplesOfGet(t *testing.T) {
	comes(t, "", answer{code: api.ErrSum})
	comes(t, "\x00\x00\x00\x00", answer{code: api.ErrShort})
	faulty(t, "\x43\x53\x02", api.ErrKind, 2)
	read(t, "\x43\x53\x01\x00\x01\x00\x00")
	a := got(t, sealed("\x43\x53\x01\x01\x02\x01\x00\x02\x61\x00\x01\x05"))
	if want := (answer{entries: 1, f: fst(5, final(0), state(arc('a', 0, 0)))}); !sameAnswer(a, want) {
		t.Errorf("it is %s, not %s", a, want)
	}
}

// P15.2: what is no seal: too few bytes, bytes without a seal, with that of others, or with more behind it.
func TestGetOfNoSeal(t *testing.T) {
	for _, s := range []string{"\x00", "\x43", "\x00\x00", "\x00\x00\x00", "\xff\xff\xff", "\x43\x53\x01", "\xff\xff\xff\xff", "\x00\x00\x00\x01", "\x43\x53\x01\x00\x01\x00\x00", "\x00\x00\x00\x00\x00"} {
		comes(t, s, answer{code: api.ErrSum})
	}
	for _, c := range samples(t) {
		body := bodyOf(c.entries, c.f)
		s := sealed(body)
		comes(t, body, answer{code: api.ErrSum})
		comes(t, s+"\x00", answer{code: api.ErrSum})
		comes(t, "\x00"+s, answer{code: api.ErrSum})
		comes(t, s[:len(s)-1], answer{code: api.ErrSum})
		comes(t, s[1:], answer{code: api.ErrSum})
		comes(t, body+s[len(s)-3:], answer{code: api.ErrSum})
		for i := 1; i <= 4; i++ {
			for by := 1; by < 256; by++ {
				b := []byte(s)
				b[len(b)-i] ^= byte(by)
				comes(t, string(b), answer{code: api.ErrSum})
			}
		}
	}
}

// P15.2: each byte of the magic another one, whatever stands behind it; and bytes of it that are lacking.
func TestGetOfMagic(t *testing.T) {
	magic := "\x43\x53\x01"
	for at := range 3 {
		faulty(t, magic[:at], api.ErrShort, at)
		for b := range 256 {
			other := magic[:at] + string([]byte{byte(b)})
			if other == magic[:at+1] {
				continue
			}
			for _, behind := range []string{"", "\x00", magic[at+1:], magic[at+1:] + "\x00\x01\x00\x00", "\xff\xff\xff\xff\xff\xff\xff\xff\xff", magic + "\x00\x01\x00\x00"} {
				faulty(t, other+behind, api.ErrKind, at)
			}
		}
	}
	faulty(t, magic, api.ErrShort, 3)
}

// P15.2: bytes that are cut off at each place: what is lacking is the piece that was cut, or the next one.
func TestGetOfLackingBytes(t *testing.T) {
	for _, c := range samples(t) {
		l := pieces(c.entries, c.f)
		body, at := joined(l), 0
		for _, p := range l {
			for cut := range len(p.bytes) {
				faulty(t, body[:at+cut], api.ErrShort, at)
			}
			at += len(p.bytes)
		}
		read(t, body)
	}
}

// asked tells whether the piece of this number is asked of a row of so many: of long rows just the first and the last ones are, for the others are like them.
func asked(i, many int) bool { return i < 40 || i >= many-20 }

// P15.2: at each place of a number one with more bytes than it needs, whatever stands behind it.
func TestGetOfNumbersTooLong(t *testing.T) {
	for _, c := range samples(t) {
		l := pieces(c.entries, c.f)
		body, at := joined(l), 0
		for i, p := range l {
			own, _, _ := numberAt(p.bytes, 0)
			for many := 1; p.number && many <= 8 && asked(i, len(l)); many++ {
				for _, n := range []uint64{own, 0, 1, 247, 255, 256, 65535, 100001, 1<<56 - 1} {
					s := overlong(n, many)
					if s == "" {
						continue
					}
					faulty(t, body[:at]+s, api.ErrForm, at)
					faulty(t, body[:at]+s+body[at+len(p.bytes):], api.ErrForm, at)
					for cut := 1; cut < len(s); cut++ {
						faulty(t, body[:at]+s[:cut], api.ErrShort, at)
					}
				}
			}
			at += len(p.bytes)
		}
	}
}

// P15.2: at each place of a number one that may not be, of all sizes; and at the edges those that may be.
func TestGetOfNumbersBesideRange(t *testing.T) {
	for _, c := range samples(t) {
		l := pieces(c.entries, c.f)
		body, at := joined(l), 0
		for i, p := range l {
			if p.number && asked(i, len(l)) {
				for _, n := range append(numbers(), p.least-1, p.least, p.most, p.most+1) {
					s := numberOf(n)
					if n >= p.least && n <= p.most {
						read(t, body[:at]+s)
						read(t, body[:at]+s+body[at+len(p.bytes):])
						continue
					}
					faulty(t, body[:at]+s, api.ErrRange, at)
					faulty(t, body[:at]+s+body[at+len(p.bytes):], api.ErrRange, at)
				}
			}
			at += len(p.bytes)
		}
	}
}

// P15.2: those numbers by hand.
func TestGetOfRangesByHand(t *testing.T) {
	magic := "\x43\x53\x01"
	// Entries.
	read(t, magic+"\xfa\xa0\x86\x01\x01\x00\x00")
	faulty(t, magic+"\xfa\xa1\x86\x01\x01\x00\x00", api.ErrRange, 3)
	faulty(t, magic+"\xff\x00\x00\x00\x00\x00\x00\x00\x80\x01\x00\x00", api.ErrRange, 3)
	faulty(t, magic+"\xff\xff\xff\xff\xff\xff\xff\xff\xff\x01\x00\x00", api.ErrRange, 3)
	// States.
	faulty(t, magic+"\x00\x00\x00", api.ErrRange, 4)
	faulty(t, magic+"\x00\x00\x00\x00", api.ErrRange, 4)
	faulty(t, magic+"\x00\x02\x00\x00", api.ErrShort, 7)
	// Arcs.
	faulty(t, magic+"\x00\x02\x00\xf9\x02\x02", api.ErrRange, 6)
	faulty(t, magic+"\x00\x02\x00\xf9\x03\x02", api.ErrRange, 6)
	faulty(t, magic+"\x00\x02\x00\xff\xff\xff\xff\xff\xff\xff\xff\xff", api.ErrRange, 6)
	faulty(t, magic+"\x00\x02\x00\xff\x02\x00\x00\x00\x00\x00\x00\x80", api.ErrRange, 6)
	for _, head := range []string{"\xf9\x00\x02", "\xf9\x01\x02\x09"} {
		rows := strings.Repeat("a\x00\x01", 256)
		read(t, magic+"\x00\x02\x00"+head+rows+"\x00")
		faulty(t, magic+"\x00\x02\x00"+head+rows, api.ErrShort, 6+len(head)+len(rows))
		faulty(t, magic+"\x00\x02\x00"+head+rows[3:], api.ErrShort, 6+len(head)+len(rows)-3)
	}
	// Ways: 0, the state's own number, above it, and of a state that can have none.
	faulty(t, magic+"\x00\x02\x00\x02a\x00\x00\x00", api.ErrRange, 9)
	read(t, magic+"\x00\x02\x00\x02a\x00\x01\x00")
	faulty(t, magic+"\x00\x02\x00\x02a\x00\x02\x00", api.ErrRange, 9)
	faulty(t, magic+"\x00\x02\x00\x02a\x00\xff\xff\xff\xff\xff\xff\xff\xff\xff\x00", api.ErrRange, 9)
	faulty(t, magic+"\x00\x01\x02a\x00\x00\x00", api.ErrRange, 8)
	faulty(t, magic+"\x00\x01\x02a\x00\x01\x00", api.ErrRange, 8)
	faulty(t, magic+"\x00\x01\x02a\x00\xff\xff\xff\xff\xff\xff\xff\xff\xff\x00", api.ErrRange, 8)
	faulty(t, magic+"\x00\x01\x02a\xf9\x00\x01\xff\x01\x00\x00\x00\x00\x00\x00\x80\x00", api.ErrRange, 10)
}

// P15.2, P1: more states than there are bytes for, up to as many as a number can say.
func TestGetOfManyStates(t *testing.T) {
	for _, states := range numbers() {
		for _, few := range []string{"", "\x00", "\x00\x00", "\x00\x00\x02a\x00\x01", "\x01\xff\xff\xff\xff\xff\xff\xff\xff\xff", strings.Repeat("\x00", 245)} {
			body := "\x43\x53\x01\x05" + numberOf(states) + few
			a := read(t, body)
			if states > 256 && (a.code != api.ErrShort || a.at != len(body)) {
				t.Errorf("Get of a seal of %s is %s", toldBytes(body), a)
			}
		}
	}
}

// P15.2: bytes behind all.
func TestGetOfBytesBehind(t *testing.T) {
	for _, c := range samples(t) {
		body := bodyOf(c.entries, c.f)
		for b := range 256 {
			faulty(t, body+string([]byte{byte(b)}), api.ErrLong, len(body))
		}
		for _, behind := range []string{"\x00\x00", "\x43\x53\x01", body, sealed(""), sealed("x"), sealed(body)[len(body):], strings.Repeat("\xff", 300)} {
			faulty(t, body+behind, api.ErrLong, len(body))
			faulty(t, body+sealed(behind), api.ErrLong, len(body))
		}
	}
}

// P15.2: of two faults the first one from the first byte on.
func TestGetOfTwoFaults(t *testing.T) {
	magic := "\x43\x53\x01"
	faulty(t, "\x44\x54\x01", api.ErrKind, 0)
	faulty(t, "\x44\x53", api.ErrKind, 0)
	faulty(t, "\x43\x54\x02\xf8\x00", api.ErrKind, 1)
	faulty(t, "\x43\x53\x02\xf8\x00\x00", api.ErrKind, 2)
	faulty(t, magic+"\xf8\x00\x00", api.ErrForm, 3)
	faulty(t, magic+"\xfa\xff\xff\xff\x00", api.ErrRange, 3)
	faulty(t, magic+"\xfb\xa1\x86\x01\x00\x00", api.ErrForm, 3)
	faulty(t, magic+"\xfb\xa1\x86\x01", api.ErrShort, 3)
	faulty(t, magic+"\x00\x00\x00\x00\x00", api.ErrRange, 4)
	faulty(t, magic+"\x00\xf8\x00\xf8\x00", api.ErrForm, 4)
	faulty(t, magic+"\x00\x01\xfa\x02\x02\x00", api.ErrForm, 5)
	faulty(t, magic+"\x00\x01\xf9\x02\x02\xf8\x00", api.ErrRange, 5)
	faulty(t, magic+"\x00\x01\x02a\xf8\x00\x00", api.ErrForm, 7)
	faulty(t, magic+"\x00\x01\x02a\x00\x00\xf8\x00", api.ErrRange, 8)
	faulty(t, magic+"\x00\x01\x02a\x00\xf8\x00", api.ErrForm, 8)
	faulty(t, magic+"\x00\x01\x00\xf8\x00\x00", api.ErrForm, 6)
	faulty(t, magic+"\x00\x01\x00\x00\x00\x43", api.ErrLong, 7)
	// No seal counts before all.
	comes(t, "\x44\x54\x01", answer{code: api.ErrSum})
	comes(t, sealed("\x44\x54\x01")+"\x00", answer{code: api.ErrSum})
}

// P15.2, P15.3: all short rows of some bytes behind the magic and the numbers of entries and states.
func TestGetOfAllShort(t *testing.T) {
	letters := []string{"\x00", "\x01", "\x02", "\x03", "\x05", "\xf7", "\xf8", "\xf9", "\xff"}
	good := 0
	var from func(body string, more int)
	from = func(body string, more int) {
		if read(t, body).code == api.OK {
			good++
		}
		if more > 0 {
			for _, b := range letters {
				from(body+b, more-1)
			}
		}
	}
	from("", 3)
	from("\x43\x53\x01", 4)
	for _, states := range []string{"\x01", "\x02", "\x03", "\xf8\xf8"} {
		from("\x43\x53\x01\x00"+states, 4)
	}
	from("\x43\x53\x01\x00\x02\x00\x02", 4)
	from("\x43\x53\x01\x00\x03\x00\x01\x00\x04", 4)
	if good < 100 {
		t.Errorf("just %d of them are good", good)
	}
}

// P15.2, P15.3: bodies of which some bytes are others, are lacking, or come twice.
func TestGetOfOtherBytes(t *testing.T) {
	c := chance(3)
	codes := map[api.Errno]int{}
	for range 60000 {
		b := []byte(bodyOf(c.below(300), c.fst(5)))
		for range 1 + c.below(3) {
			at := c.below(len(b))
			switch c.below(4) {
			case 0:
				b[at] = byte(c.below(256))
			case 1:
				b[at] = byte(c.below(4))
			case 2:
				b = append(b[:at:at], b[min(at+1+c.below(3), len(b)):]...)
			case 3:
				b = append(b[:at:at], b[max(0, at-c.below(3)):]...)
			}
			if len(b) == 0 {
				break
			}
		}
		codes[read(t, string(b)).code]++
	}
	for _, e := range []api.Errno{api.OK, api.ErrShort, api.ErrLong, api.ErrForm, api.ErrKind, api.ErrRange} {
		if codes[e] < 20 {
			t.Errorf("of the answer %d there are just %d", e, codes[e])
		}
	}
}
