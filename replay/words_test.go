package replay_test

import (
	"math"
	"slices"
	"strconv"
	"strings"
	"testing"

	"cedilla/api"
	"cedilla/crc"
	"cedilla/disk"
	"cedilla/replay"
	"cedilla/vary"
)

const (
	// mostCount is the greatest number of a log that counts.
	mostCount = 900000000
	// mostNumber is the greatest number that a log may have.
	mostNumber = 1000000000
)

// Entries whose frames have 8, 7 and 8 bytes.
var (
	a = api.Entry{Word: "a", Weight: 1}
	b = api.Entry{Word: "b", Gone: true}
	c = api.Entry{Word: "c", Weight: 3}
)

// log is the name of the log of that number.
func log(n int) string { return "wal-" + strconv.Itoa(n) }

// bytesOf is the entry's bytes, as the words of chapter 5 tell them.
func bytesOf(e api.Entry) string {
	if e.Gone {
		return "\x02" + e.Word
	}
	return "\x01" + vary.Put(uint64(e.Weight)) + e.Word
}

// frameOf is the payload's frame, as the words of chapter 3 tell it; also of what is no payload.
func frameOf(payload string) string {
	return crc.Seal(vary.Put(uint64(len(payload))) + payload)
}

// framed is the entries' frames, one behind the other.
func framed(l ...api.Entry) string {
	var s strings.Builder
	for _, e := range l {
		s.WriteString(frameOf(bytesOf(e)))
	}
	return s.String()
}

// frameAt is the payload of the frame at the beginning of s, and how many bytes it has: one stands there, if its bytes do.
func frameAt(s string) (string, int) {
	for many := 1; many <= 300; many++ {
		ahead := len(vary.Put(uint64(many)))
		behind := ahead + many + 4
		if behind <= len(s) && s[:behind] == frameOf(s[ahead:ahead+many]) {
			return s[ahead : ahead+many], behind
		}
	}
	return "", 0
}

// entryOf is the entry whose bytes s is, and whether it is one's: it is, if that has these bytes, and may be.
func entryOf(s string) (api.Entry, bool) {
	l := []api.Entry{{Word: strings.TrimPrefix(s, "\x02"), Gone: true}}
	if weight, at, e := vary.Get(s, 1); e == api.OK && weight <= math.MaxUint32 {
		l = append(l, api.Entry{Word: s[at:], Weight: uint32(weight)})
	}
	for _, e := range l {
		if len(e.Word) >= 1 && len(e.Word) <= 255 && bytesOf(e) == s {
			return e, true
		}
	}
	return api.Entry{}, false
}

// readByWords is the entries of a log's bytes, and how many of these are good, as the chapter's words tell it.
func readByWords(s string) ([]api.Entry, int) {
	var l []api.Entry
	good := 0
	for {
		payload, many := frameAt(s[good:])
		e, is := entryOf(payload)
		if many == 0 || !is {
			return l, good
		}
		l, good = append(l, e), good+many
	}
}

// numberOf is the number of a log's name, or 0 of any other name.
func numberOf(s string) int {
	n, _ := strconv.Atoi(strings.TrimPrefix(s, "wal-"))
	if n < 1 || n > mostNumber || log(n) != s {
		return 0
	}
	return n
}

// liveByWords is the numbers of the live logs, and OK, or why they may not be, as the chapter's words tell it.
func liveByWords(floor int, names []string) ([]int, api.Errno) {
	if floor < 1 || floor > mostCount {
		return nil, api.ErrArg
	}
	var l []int
	for _, s := range names {
		if n := numberOf(s); n >= floor && !slices.Contains(l, n) {
			l = append(l, n)
		}
	}
	slices.Sort(l)
	for i, n := range l {
		if n != floor+i || n > mostCount {
			return nil, api.ErrCorrupt
		}
	}
	return l, api.OK
}

// loadByWords is what is found on a disk that is up, or why nothing is, as the chapter's words tell it.
func loadByWords(there []api.File, floor int) (replay.Found, api.Errno) {
	var names []string
	bytes := map[string]string{}
	for _, f := range there {
		names = append(names, f.Name)
		bytes[f.Name] = f.Bytes
	}
	logs, e := liveByWords(floor, names)
	if e != api.OK {
		return replay.Found{}, e
	}
	found := replay.Found{Logs: logs}
	for i, n := range logs {
		l, good := readByWords(bytes[log(n)])
		torn := good < len(bytes[log(n)])
		if torn && i < len(logs)-1 {
			return replay.Found{}, api.ErrCorrupt
		}
		found.Entries = append(found.Entries, l...)
		found.Good, found.Torn = good, torn
	}
	return found, api.OK
}

// same tells whether two findings say the same.
func same(f, g replay.Found) bool {
	return slices.Equal(f.Logs, g.Logs) && slices.Equal(f.Entries, g.Entries) && f.Good == g.Good && f.Torn == g.Torn
}

// files are files, told as names and bytes by turns.
func files(l ...string) []api.File {
	var files []api.File
	for pair := range slices.Chunk(l, 2) {
		files = append(files, api.File{Name: pair[0], Bytes: pair[1]})
	}
	return files
}

// diskOf is a disk with these files, told as names and bytes by turns, all durable, and with much room.
func diskOf(l ...string) *disk.Disk { return disk.Of(files(l...), 1<<40) }

// down is a disk with these files that is down.
func down(l ...string) *disk.Disk {
	d := diskOf(l...)
	d.Arm(1)
	d.SyncDir()
	return d
}

// all is what stays of all: that is what was read.
func all() []uint16 { return slices.Repeat([]uint16{math.MaxUint16}, 99) }

// rows are some rows of numbers of what stays.
func rows() [][]uint16 {
	l := [][]uint16{nil, {math.MaxUint16}, all(), {1}, {2}}
	for _, dir := range []uint16{0, 1, 9} {
		for _, done := range []uint16{0, 1, 2} {
			for _, part := range []uint16{0, 3} {
				l = append(l, append([]uint16{dir}, slices.Repeat([]uint16{done, part}, 9)...))
			}
		}
	}
	return l
}

// staysAlike finds out whether what stays of two disks, behind a stop, is the same.
func staysAlike(t *testing.T, what string, got, want *disk.Disk) {
	t.Helper()
	for _, row := range rows() {
		x, y := got.Copy(), want.Copy()
		x.Restart(row)
		y.Restart(row)
		if !slices.Equal(x.Files(), y.Files()) {
			t.Fatalf("%s: behind a restart by %d there are %q, not %q", what, row, x.Files(), y.Files())
		}
	}
}

// numbers makes the same row of numbers in each run.
type numbers uint64

func (n *numbers) below(most int) int {
	*n = *n*6364136223846793005 + 1442695040888963407
	return int(*n>>33) % most
}

// entry is an entry of which the frame is short, now and then long.
func (n *numbers) entry() api.Entry {
	size := 1 + n.below(6)
	if n.below(20) == 0 {
		size = 1 + n.below(255)
	}
	e := api.Entry{Word: strings.Repeat("\x00a\xff"[n.below(3):][:1], size)}
	if n.below(3) == 0 {
		e.Gone = true
	} else {
		e.Weight = uint32(1)<<n.below(32) - 1
	}
	return e
}

func (n *numbers) entries(most int) []api.Entry {
	var l []api.Entry
	for range n.below(most + 1) {
		l = append(l, n.entry())
	}
	return l
}

// pick is one of some things.
func pick[T any](n *numbers, l []T) T { return l[n.below(len(l))] }
