package wal_test

import (
	"math"
	"reflect"
	"slices"
	"strconv"
	"strings"
	"testing"

	"cedilla/api"
	"cedilla/crc"
	"cedilla/disk"
	"cedilla/frame"
	"cedilla/name"
	"cedilla/vary"
	"cedilla/wal"
)

// last is the greatest number that a log may have.
const last = 1000000000

// Entries whose frames have 8 bytes each, as in the chapter's examples.
var (
	a = api.Entry{Word: "a", Weight: 1}
	b = api.Entry{Word: "b", Weight: 2}
	c = api.Entry{Word: "c", Weight: 3}
)

// log is the name of the log of that number.
func log(n int) string { return "wal-" + strconv.Itoa(n) }

// framed is the entries' frames, one behind the other, as the words of chapters 3 and 5 tell them.
func framed(l ...api.Entry) string {
	all := ""
	for _, e := range l {
		payload := "\x01" + vary.Put(uint64(e.Weight)) + e.Word
		if e.Gone {
			payload = "\x02" + e.Word
		}
		all += crc.Seal(vary.Put(uint64(len(payload))) + payload)
	}
	return all
}

// words is a writer as the chapter's words tell it, with a disk of its own.
type words struct {
	d                *disk.Disk
	file, next, most int
	bad              bool
	done             int
}

// fails is a step's answer, behind which the writer is bad, if it is another one than OK.
func (w *words) fails(e api.Errno) bool {
	if e != api.OK {
		w.bad = true
	}
	return e != api.OK
}

func (w *words) append(l ...api.Entry) api.Errno {
	if w.bad {
		return api.ErrPoisoned
	}
	for _, e := range l {
		if len(e.Word) < 1 || len(e.Word) > 255 {
			return api.ErrInvalid
		}
	}
	for _, e := range l {
		if why := w.appendOne(e); w.fails(why) {
			return why
		}
		w.done++
	}
	return api.OK
}

func (w *words) appendOne(e api.Entry) api.Errno {
	if w.file == 0 {
		if why := w.newFile(); why != api.OK {
			return why
		}
	} else if w.size() >= w.most {
		if why := w.d.Sync(log(w.file)); why != api.OK {
			return why
		}
		if why := w.newFile(); why != api.OK {
			return why
		}
	}
	return w.d.Append(log(w.file), framed(e))
}

func (w *words) newFile() api.Errno {
	if w.next > last {
		return api.ErrRange
	}
	if why := w.d.Create(log(w.next)); why != api.OK {
		return why
	}
	if why := w.d.SyncDir(); why != api.OK {
		return why
	}
	w.file, w.next = w.next, w.next+1
	return api.OK
}

func (w *words) sync() api.Errno {
	if w.bad {
		return api.ErrPoisoned
	}
	if w.file == 0 {
		return api.OK
	}
	why := w.d.Sync(log(w.file))
	w.fails(why)
	return why
}

func (w *words) size() int {
	if w.file == 0 {
		return 0
	}
	n, e := w.d.Size(log(w.file))
	if e != api.OK {
		return 0
	}
	return n
}

// both is a writer and its disk, and the words for them, of which the same is asked.
type both struct {
	t     *testing.T
	l     *wal.Log
	d     *disk.Disk
	w     words
	calls string
}

// start is a writer without a file.
func start(t *testing.T, d *disk.Disk, next, most int) *both {
	t.Helper()
	p := &both{t: t, d: d, w: words{d: d.Copy(), next: next, most: most}}
	p.calls = "New(" + strconv.Itoa(next) + ", " + strconv.Itoa(most) + ")"
	if p.l = wal.New(d, next, most); p.l == nil {
		t.Fatalf("%s is none", p.calls)
	}
	return p
}

// of is a writer of a file.
func of(t *testing.T, d *disk.Disk, file, most int) *both {
	t.Helper()
	p := &both{t: t, d: d, w: words{d: d.Copy(), file: file, next: file + 1, most: most}}
	p.calls = "Of(" + strconv.Itoa(file) + ", " + strconv.Itoa(most) + ")"
	if p.l = wal.Of(d, file, most); p.l == nil {
		t.Fatalf("%s is none", p.calls)
	}
	return p
}

// answered finds out whether both answered the same, and are alike behind it.
func (p *both) answered(call string, got, want api.Errno) api.Errno {
	p.t.Helper()
	p.calls += "; " + call
	if got != want {
		p.t.Fatalf("%s answers %d, not %d", p.told(), got, want)
	}
	p.alike()
	return got
}

func (p *both) append(l ...api.Entry) api.Errno {
	p.t.Helper()
	return p.answered("Append"+told(l), p.l.Append(l...), p.w.append(l...))
}

func (p *both) sync() api.Errno {
	p.t.Helper()
	return p.answered("Sync", p.l.Sync(), p.w.sync())
}

// meanwhile is what somebody else does at the disk.
func (p *both) meanwhile(what string, do func(d *disk.Disk)) {
	p.t.Helper()
	do(p.d)
	do(p.w.d)
	p.calls += "; " + what
	p.alike()
}

func (p *both) arm(n int) {
	p.t.Helper()
	p.meanwhile("Arm("+strconv.Itoa(n)+")", func(d *disk.Disk) { d.Arm(n) })
}

func (p *both) restart(l ...uint16) {
	p.t.Helper()
	p.meanwhile("Restart", func(d *disk.Disk) { d.Restart(l) })
}

// alike finds out whether the writer, and what is read on its disk, are as the words say.
func (p *both) alike() {
	p.t.Helper()
	p.holds(p.w.file, p.w.next, p.w.size(), p.w.bad, p.w.done)
	if got, want := p.d.Files(), p.w.d.Files(); !slices.Equal(got, want) {
		p.t.Fatalf("%s: the files are %q, not %q", p.told(), got, want)
	}
	if got, want := p.d.Steps(), p.w.d.Steps(); got != want {
		p.t.Fatalf("%s: there were %d steps, not %d", p.told(), got, want)
	}
	if p.d.Down() != p.w.d.Down() {
		p.t.Fatalf("%s: Down is %t", p.told(), p.d.Down())
	}
}

// holds finds out what the writer says of itself.
func (p *both) holds(file, next, size int, bad bool, done int) {
	p.t.Helper()
	l := p.l
	if l.File() != file || l.Next() != next || l.Size() != size || l.Bad() != bad || l.Done() != done {
		p.t.Fatalf("%s: File %d, Next %d, Size %d, Bad %t, Done %d; not %d, %d, %d, %t, %d", p.told(), l.File(), l.Next(), l.Size(), l.Bad(), l.Done(), file, next, size, bad, done)
	}
}

// staysAlike finds out whether what stays of the disk, behind a stop, is as the words say.
func (p *both) staysAlike() {
	p.t.Helper()
	for _, row := range rows() {
		got, want := p.d.Copy(), p.w.d.Copy()
		got.Restart(row)
		want.Restart(row)
		if !slices.Equal(got.Files(), want.Files()) {
			p.t.Fatalf("%s: behind a restart by %d there are %q, not %q", p.told(), row, got.Files(), want.Files())
		}
	}
}

// has finds out whether the disk has just these files, told as names and bytes by turns.
func (p *both) has(l ...string) {
	p.t.Helper()
	if got := p.d.Files(); !slices.Equal(got, files(l...)) {
		p.t.Fatalf("%s: the files are %q, not %q", p.told(), got, files(l...))
	}
}

// stays finds out whether the disk has just these files behind a stop of which that stays.
func (p *both) stays(row []uint16, l ...string) {
	p.t.Helper()
	d := p.d.Copy()
	d.Restart(row)
	if got := d.Files(); !slices.Equal(got, files(l...)) {
		p.t.Fatalf("%s: behind a restart by %d there are %q, not %q", p.told(), row, got, files(l...))
	}
}

// told is the calls, of many the last ones.
func (p *both) told() string {
	if len(p.calls) > 700 {
		return ".." + p.calls[len(p.calls)-700:]
	}
	return p.calls
}

// told is entries, as what a call was given.
func told(l []api.Entry) string {
	s := "("
	for i, e := range l {
		if i == 5 {
			s += ".. of " + strconv.Itoa(len(l))
			break
		}
		s += strconv.QuoteToASCII(e.Word[:min(len(e.Word), 9)]) + " "
	}
	return strings.TrimSuffix(s, " ") + ")"
}

// files are files, told as names and bytes by turns.
func files(l ...string) []api.File {
	var files []api.File
	for pair := range slices.Chunk(l, 2) {
		files = append(files, api.File{Name: pair[0], Bytes: pair[1]})
	}
	return files
}

// room is a new disk with room for all.
func room() *disk.Disk { return disk.New(math.MaxInt) }

// full is a disk on which log 7 is there, and has just the bytes of a and b.
func full() *disk.Disk { return disk.Of(files("wal-7", framed(a, b)), 1000) }

// all is what stays of all: that is what was read.
func all() []uint16 { return slices.Repeat([]uint16{math.MaxUint16}, 99) }

// names is all the folder's acts, and of the files what was synced.
func names() []uint16 { return []uint16{math.MaxUint16} }

// rows are some rows of numbers of what stays.
func rows() [][]uint16 {
	l := [][]uint16{nil, names(), all(), {1}, {2}}
	for _, dir := range []uint16{0, 1, 9} {
		for _, done := range []uint16{0, 1, 2} {
			for _, part := range []uint16{0, 3} {
				l = append(l, append([]uint16{dir}, slices.Repeat([]uint16{done, part}, 9)...))
			}
		}
	}
	return l
}

// sized is an entry whose frame has so many bytes, from 8 to 100.
func sized(bytes int) api.Entry { return api.Entry{Word: strings.Repeat("w", bytes-7), Weight: 1} }

// want tells that an answer is another one than it should be.
func want(t *testing.T, call string, got, want api.Errno) {
	t.Helper()
	if got != want {
		t.Fatalf("%s answers %d, not %d", call, got, want)
	}
}

// invalid are entries that have no bytes.
func invalid() []api.Entry {
	long := strings.Repeat("l", 256)
	return []api.Entry{{}, {Weight: 5}, {Gone: true}, {Word: long}, {Word: long, Gone: true}, {Word: long + long}}
}

// numbers makes the same row of numbers in each run.
type numbers uint64

func (n *numbers) below(most int) int {
	*n = *n*6364136223846793005 + 1442695040888963407
	return int(*n>>33) % most
}

// entry is an entry of which the frame is short, now and then long.
func (n *numbers) entry() api.Entry {
	size := 1 + n.below(6)
	if n.below(20) == 0 {
		size = 1 + n.below(255)
	}
	e := api.Entry{Word: strings.Repeat("\x00a\xff"[n.below(3):][:1], size), Weight: uint32(1) << n.below(32)}
	if n.below(3) == 0 {
		e.Gone = true
	}
	return e
}

func (n *numbers) entries(most int) []api.Entry {
	var l []api.Entry
	for range n.below(most + 1) {
		l = append(l, n.entry())
	}
	return l
}

// The examples of the chapter, and the fourth one of the whole.
func TestExamples(t *testing.T) {
	ab, c8 := framed(a, b), framed(c)
	if len(ab) != 16 || len(c8) != 8 || framed(a)[:4] != "\x03\x01\x01a" {
		t.Fatalf("the frames are %q, %q", ab, c8)
	}
	p := start(t, disk.New(1000), 5, 12)
	p.append(a)
	p.has("wal-5", framed(a))
	p.append(b)
	p.has("wal-5", ab)
	p.holds(5, 6, 16, false, 2)
	p.append(c)
	p.has("wal-5", ab, "wal-6", c8)
	p.holds(6, 7, 8, false, 3)
	p.stays(nil, "wal-5", ab, "wal-6", "")
	p.sync()
	p.stays([]uint16{0}, "wal-5", ab, "wal-6", c8)
	p.restart(0)
	p.has("wal-5", ab, "wal-6", c8)
	p.holds(6, 7, 8, false, 3)

	p = start(t, disk.New(20), 5, 12)
	want(t, "Append of a, b, c", p.append(a, b, c), api.ErrFull)
	p.holds(6, 7, 4, true, 2)
	p.has("wal-5", ab, "wal-6", c8[:4])
	want(t, "Append behind ErrFull", p.append(a), api.ErrPoisoned)

	p = start(t, disk.New(1000), 5, 12)
	p.append(a, b, c)
	p.has("wal-5", ab, "wal-6", c8)
	p.stays(nil, "wal-5", ab, "wal-6", "")
}

// P10.1: which writers there are, and what they are at first. To make one is no step.
func TestNew(t *testing.T) {
	for _, next := range []int{math.MinInt, math.MinInt32, -last, -1, 0, 1, 2, 17, last - 1, last, last + 1, math.MaxInt32, math.MaxInt} {
		for _, most := range []int{math.MinInt, -last, -1, 0, 1, 2, 12, last, last + 1, math.MaxInt} {
			if wal.New(nil, next, most) != nil {
				t.Errorf("New(no disk, %d, %d) is a writer", next, most)
			}
			d := room()
			l := wal.New(d, next, most)
			if may := next >= 1 && next <= last && most >= 1; !may {
				if l != nil {
					t.Errorf("New(%d, %d) is a writer", next, most)
				}
				continue
			}
			if l == nil {
				t.Fatalf("New(%d, %d) is none", next, most)
			}
			if l.File() != 0 || l.Next() != next || l.Size() != 0 || l.Bad() || l.Done() != 0 || d.Steps() != 0 || len(d.List()) != 0 {
				t.Errorf("New(%d, %d) has %d, %d, %d, %t, %d, behind %d steps", next, most, l.File(), l.Next(), l.Size(), l.Bad(), l.Done(), d.Steps())
			}
			want(t, "Append", l.Append(a), api.OK)
			if l.File() != next || l.Next() != next+1 || l.Size() != 8 || l.Bad() || l.Done() != 1 {
				t.Errorf("New(%d, %d) has %d, %d, %d, %t, %d behind an Append", next, most, l.File(), l.Next(), l.Size(), l.Bad(), l.Done())
			}
		}
	}
}

// P10.1: New does not ask what is on the disk, nor whether it is down.
func TestNewOfAnyDisk(t *testing.T) {
	down := full()
	down.Arm(1)
	down.SyncDir()
	for what, d := range map[string]*disk.Disk{"a zero disk": {}, "one without room": disk.New(0), "one with that log": full(), "one that is down": down} {
		steps := d.Steps()
		l := wal.New(d, 7, 10)
		if l == nil || l.File() != 0 || l.Next() != 7 || l.Size() != 0 || l.Bad() || l.Done() != 0 || d.Steps() != steps {
			t.Errorf("New of %s is another one", what)
		}
	}
}

// P10.1: writers of logs that are there, and are not.
func TestOf(t *testing.T) {
	there := files("manifest", "m", "seg-3", "s", "wal-1", "", "wal-1000000000", "great", "wal-2", framed(a), "wal-5", "no frame at all", "wal-9", framed(a, b, c))
	sizes := map[int]int{1: 0, last: 5, 2: 8, 5: 15, 9: 24}
	for _, file := range []int{math.MinInt, -5, -1, 0, 1, 2, 3, 4, 5, 6, 8, 9, 10, last - 1, last, last + 1, math.MaxInt} {
		for _, most := range []int{math.MinInt, -last, -1, 0, 1, 15, 16, 24, 25, last + 1, math.MaxInt} {
			if wal.Of(nil, file, most) != nil {
				t.Errorf("Of(no disk, %d, %d) is a writer", file, most)
			}
			d := disk.Of(there, 1000)
			l := wal.Of(d, file, most)
			size, is := sizes[file]
			if is && most >= 1 {
				if l == nil {
					t.Fatalf("Of(%d, %d) is none", file, most)
				}
				if l.File() != file || l.Next() != file+1 || l.Size() != size || l.Bad() || l.Done() != 0 {
					t.Errorf("Of(%d, %d) has %d, %d, %d, %t, %d", file, most, l.File(), l.Next(), l.Size(), l.Bad(), l.Done())
				}
			} else if l != nil {
				t.Errorf("Of(%d, %d) is a writer", file, most)
			}
			if d.Steps() != 0 || !slices.Equal(d.Files(), there) {
				t.Errorf("behind Of(%d, %d) there are %q, and %d steps", file, most, d.Files(), d.Steps())
			}
		}
	}
}

// P10.1: what is not there, but other things are that look like it.
func TestOfWhatIsNotThere(t *testing.T) {
	down := full()
	down.Arm(1)
	down.SyncDir()
	for what, d := range map[string]*disk.Disk{
		"a new disk":       room(),
		"a zero disk":      {},
		"other names":      disk.Of(files("seg-7", "", "wal-07", "", "wal-77", "", "wal-", "", "wal-7.tmp", "", "7", ""), 100),
		"one that is down": down,
	} {
		if wal.Of(d, 7, 10) != nil {
			t.Errorf("Of(%s, 7, 10) is a writer", what)
		}
	}
	d := full()
	d.Remove("wal-7")
	if wal.Of(d, 7, 10) != nil {
		t.Error("Of a log that was removed is a writer")
	}
	d.Restart(nil)
	if wal.Of(d, 7, 10) == nil {
		t.Error("Of a log that is there again is none")
	}
	d = room()
	d.Create("wal-7")
	if wal.Of(d, 7, 10) == nil {
		t.Error("Of a log whose name does not last yet is none")
	}
}

// P10.2: an Append to a file that is there, with room in it, to just the most bytes, and more; what stood there stays.
func TestAppendToAFile(t *testing.T) {
	ab := framed(a, b)
	for most := 1; most < 40; most++ {
		p := of(t, full(), 7, most)
		p.append(c)
		if most > 16 {
			p.has("wal-7", ab+framed(c))
			p.holds(7, 8, 24, false, 1)
			p.stays(nil, "wal-7", ab)
		} else {
			p.has("wal-7", ab, "wal-8", framed(c))
			p.holds(8, 9, 8, false, 1)
			p.stays(nil, "wal-7", ab, "wal-8", "")
		}
		p.append(a)
		p.append(b, c)
		p.sync()
		p.staysAlike()
	}
}

// P10.2: no entries are appended by no step.
func TestAppendOfNone(t *testing.T) {
	for _, p := range []*both{start(t, room(), 1, 1), of(t, full(), 7, 1), of(t, full(), 7, 1000)} {
		file, next, size := p.l.File(), p.l.Next(), p.l.Size()
		for range 3 {
			p.append()
			p.append([]api.Entry{}...)
			p.holds(file, next, size, false, 0)
			if p.d.Steps() != 0 {
				t.Errorf("%s: %d steps", p.told(), p.d.Steps())
			}
		}
		want(t, "Append", p.append(a), api.OK)
		want(t, "Append of none", p.append(), api.OK)
		if p.l.Done() != 1 {
			t.Errorf("%s: Done is %d", p.told(), p.l.Done())
		}
	}
}

// P10.2: of entries together all is as of the same ones one by one, but which steps are done if one has no bytes.
func TestAppendOfMany(t *testing.T) {
	n := numbers(1)
	for range 300 {
		l, most := n.entries(30), 1+n.below(60)
		one, many := start(t, room(), 3, most), start(t, room(), 3, most)
		for _, e := range l {
			one.append(e)
		}
		many.append(l...)
		if !slices.Equal(one.d.Files(), many.d.Files()) || one.d.Steps() != many.d.Steps() {
			t.Fatalf("%s: the files are %q, one by one %q", many.told(), many.d.Files(), one.d.Files())
		}
		many.staysAlike()
	}
}

// P10.2: each sort of entries, of the shortest and the longest words, as their frames tell them.
func TestAppendOfEachSort(t *testing.T) {
	var l []api.Entry
	for _, size := range []int{1, 2, 100, 127, 128, 245, 246, 247, 248, 249, 250, 254, 255} {
		w := strings.Repeat("\x00\xff", size)[:size]
		for _, weight := range []uint32{0, 1, 247, 248, 255, 256, 65535, 65536, math.MaxUint32 - 1, math.MaxUint32} {
			l = append(l, api.Entry{Word: w, Weight: weight})
			// Of one that is gone no weight is written.
			l = append(l, api.Entry{Word: w, Weight: weight, Gone: true})
		}
	}
	p := start(t, room(), 1, math.MaxInt)
	p.append(l...)
	p.has("wal-1", framed(l...))
	payloads, good, e := frame.All(p.d.Files()[0].Bytes)
	if len(payloads) != len(l) || good != p.l.Size() || e != api.OK {
		t.Errorf("%d frames, %d, %d", len(payloads), good, e)
	}
	for i, e := range l {
		q := start(t, room(), 1, 1)
		q.append(e)
		q.has("wal-1", framed(e))
		if payload, _, _ := frame.Get(framed(e), 0); payload != payloads[i] {
			t.Errorf("%d: the payload is %q, not %q", i, payloads[i], payload)
		}
	}
}

// P10.2: with an entry that has no bytes, wherever it stands, nothing is done; and the writer goes on.
func TestInvalid(t *testing.T) {
	for _, wrong := range invalid() {
		for _, p := range []*both{start(t, room(), 1, 1), start(t, room(), last, 9), of(t, full(), 7, 1), of(t, full(), 7, 1000)} {
			before, file, next, size := p.d.Files(), p.l.File(), p.l.Next(), p.l.Size()
			for _, l := range [][]api.Entry{{wrong}, {wrong, a}, {a, wrong}, {a, wrong, b}, {a, b, c, wrong}, {wrong, wrong}} {
				want(t, "Append"+told(l), p.append(l...), api.ErrInvalid)
				p.holds(file, next, size, false, 0)
				if p.d.Steps() != 0 || !slices.Equal(p.d.Files(), before) {
					t.Fatalf("%s: %d steps", p.told(), p.d.Steps())
				}
			}
			want(t, "Append behind ErrInvalid", p.append(a), api.OK)
			p.append(b, wrong)
			p.append(c)
			p.sync()
			p.staysAlike()
		}
	}
}

// P10.2: that an entry has no bytes is told ahead of all that a step would answer; that the writer is bad is told ahead of that.
func TestWhichErrorIsFirst(t *testing.T) {
	for what, p := range map[string]*both{
		"a full disk":          start(t, disk.New(0), 1, 1),
		"a name that is taken": start(t, full(), 7, 1),
		"no number left":       of(t, disk.Of(files("wal-1000000000", "12"), 100), last, 1),
	} {
		for _, wrong := range invalid() {
			want(t, what+": Append of none of bytes", p.append(a, wrong), api.ErrInvalid)
		}
		p.append(a)
		if !p.l.Bad() {
			t.Errorf("%s: the writer is not bad", what)
		}
		for _, wrong := range invalid() {
			want(t, what+": Append by a bad writer", p.append(wrong), api.ErrPoisoned)
		}
	}
	p := of(t, full(), 7, 1)
	p.arm(1)
	for _, wrong := range invalid() {
		want(t, "Append at a disk that will stop", p.append(wrong), api.ErrInvalid)
	}
	p.append(a)
	want(t, "Append behind a stop", p.append(invalid()[0]), api.ErrPoisoned)
}

// P10.2: a file is full from just the most bytes on: with one byte less it is not, with one more it is.
func TestJustTheMost(t *testing.T) {
	for most := 8; most <= 60; most++ {
		for bytes := max(8, most-3); bytes <= most+3; bytes++ {
			p := start(t, room(), 1, most)
			p.append(sized(bytes))
			p.holds(1, 2, bytes, false, 1)
			p.append(a)
			if bytes < most {
				p.has("wal-1", framed(sized(bytes), a))
				p.holds(1, 2, bytes+8, false, 2)
				p.stays(nil, "wal-1", "")
			} else {
				p.has("wal-1", framed(sized(bytes)), "wal-2", framed(a))
				p.holds(2, 3, 8, false, 2)
				p.stays(nil, "wal-1", framed(sized(bytes)), "wal-2", "")
			}
		}
	}
}

// P10.2: with the least most each file has one entry; with the greatest one file has all.
func TestLeastAndGreatestMost(t *testing.T) {
	p := start(t, room(), 8, 1)
	p.append(a, b, c)
	p.has("wal-10", framed(c), "wal-8", framed(a), "wal-9", framed(b))
	p.holds(10, 11, 8, false, 3)
	p.append(a)
	p.holds(11, 12, 8, false, 4)
	for _, most := range []int{last, math.MaxInt32, math.MaxInt} {
		p := start(t, room(), 8, most)
		p.append(slices.Repeat([]api.Entry{a, b, c}, 100)...)
		p.has("wal-8", strings.Repeat(framed(a, b, c), 100))
		p.holds(8, 9, 2400, false, 300)
	}
}

// P10.2: the last number that may be, and behind it: the file that is full is synced, and then there is none to write.
func TestLastNumber(t *testing.T) {
	p := start(t, room(), last-1, 8)
	p.append(a)
	p.holds(last-1, last, 8, false, 1)
	p.append(b)
	p.holds(last, last+1, 8, false, 2)
	p.has("wal-1000000000", framed(b), "wal-999999999", framed(a))
	p.stays(nil, "wal-1000000000", "", "wal-999999999", framed(a))
	p.sync()
	steps := p.d.Steps()
	want(t, "Append with no number left", p.append(c, a), api.ErrRange)
	p.holds(last, last+1, 8, true, 2)
	if p.d.Steps() != steps+1 {
		t.Errorf("%d steps, not one", p.d.Steps()-steps)
	}
	p.has("wal-1000000000", framed(b), "wal-999999999", framed(a))
	want(t, "Append behind ErrRange", p.append(), api.ErrPoisoned)
	want(t, "Sync behind ErrRange", p.sync(), api.ErrPoisoned)
	p.holds(last, last+1, 8, true, 2)
}

// P10.2: ErrRange is told behind the Sync of the file that is full, and only if it is.
func TestLastNumberOfAFile(t *testing.T) {
	there := files("wal-1000000000", framed(a))
	p := of(t, disk.Of(there, 1000), last, 9)
	p.holds(last, last+1, 8, false, 0)
	p.append(b)
	p.holds(last, last+1, 16, false, 1)
	p.stays(nil, "wal-1000000000", framed(a))
	p.append(c)
	p.holds(last, last+1, 16, true, 1)
	p.stays(nil, "wal-1000000000", framed(a, b))

	p = of(t, disk.Of(there, 1000), last, 1)
	p.append()
	p.arm(1)
	want(t, "Append at a disk that stops", p.append(b), api.ErrCrash)
	p.holds(last, last+1, 0, true, 0)

	p = start(t, room(), last, 1)
	p.append(a, b)
	p.holds(last, last+1, 8, true, 1)
	p.has("wal-1000000000", framed(a))
	p.stays(nil, "wal-1000000000", framed(a))
}

// P10.2: a disk that is full, at each byte of three frames in two files: what is answered, what is there, and what is done behind it.
func TestFull(t *testing.T) {
	abc := framed(a, b, c)
	for quota := range 25 {
		p := start(t, disk.New(quota), 5, 12)
		why := api.ErrFull
		if quota == 24 {
			why = api.OK
		}
		want(t, "Append of a, b, c", p.append(a, b, c), why)
		if quota < 16 {
			p.has("wal-5", abc[:quota])
			p.holds(5, 6, quota, true, quota/8)
			p.stays(nil, "wal-5", "")
		} else {
			p.has("wal-5", abc[:16], "wal-6", abc[16:quota])
			p.holds(6, 7, quota-16, quota < 24, quota/8)
			p.stays(nil, "wal-5", abc[:16], "wal-6", "")
		}
		p.append(a)
		p.sync()
		p.staysAlike()
	}
}

// P10.2: a disk that is full with a file that is there, and one that has more than its quota.
func TestFullOfAFile(t *testing.T) {
	ab := framed(a, b)
	for quota := range 40 {
		for _, most := range []int{1, 16, 17, 24, 100} {
			p := of(t, disk.Of(files("wal-7", ab), quota), 7, most)
			p.append(c)
			if p.l.Bad() != (quota < 24) {
				t.Errorf("%s: of a quota of %d the writer is bad: %t", p.told(), quota, p.l.Bad())
			}
			fits := framed(c)[:min(max(quota-16, 0), 8)]
			if most > 16 {
				p.has("wal-7", ab+fits)
			} else {
				p.has("wal-7", ab, "wal-8", fits)
			}
			p.append(a)
			p.staysAlike()
		}
	}
}

// P10.2: a stop at each step of three frames in two files: what is answered, what is done ahead of it and not behind it, and what stays at the least and at the most.
func TestStopAtEachStep(t *testing.T) {
	ab, c8 := framed(a, b), framed(c)
	for i, x := range []struct {
		file, next, done int
		least, most      []string
	}{
		{0, 5, 0, nil, nil},                                                               // Create wal-5
		{0, 5, 0, nil, []string{"wal-5", ""}},                                             // SyncDir
		{5, 6, 0, []string{"wal-5", ""}, []string{"wal-5", ""}},                           // Append a
		{5, 6, 1, []string{"wal-5", ""}, []string{"wal-5", ab[:8]}},                       // Append b
		{5, 6, 2, []string{"wal-5", ""}, []string{"wal-5", ab}},                           // Sync wal-5
		{5, 6, 2, []string{"wal-5", ab}, []string{"wal-5", ab}},                           // Create wal-6
		{5, 6, 2, []string{"wal-5", ab}, []string{"wal-5", ab, "wal-6", ""}},              // SyncDir
		{6, 7, 2, []string{"wal-5", ab, "wal-6", ""}, []string{"wal-5", ab, "wal-6", ""}}, // Append c
		{6, 7, 3, []string{"wal-5", ab, "wal-6", ""}, []string{"wal-5", ab, "wal-6", c8}}, // none
	} {
		for _, together := range []bool{true, false} {
			p := start(t, disk.New(100), 5, 12)
			p.arm(i + 1)
			if together {
				p.append(a, b, c)
			} else {
				p.append(a)
				p.append(b)
				p.append(c)
			}
			stopped := i < 8
			if p.d.Down() != stopped {
				t.Fatalf("%s: Down is %t", p.told(), p.d.Down())
			}
			size := 8
			if stopped {
				// Of a disk that is down nothing is read.
				size = 0
			}
			p.holds(x.file, x.next, size, stopped, x.done)
			if steps := p.d.Steps(); steps != min(i+1, 8) {
				t.Errorf("%s: %d steps", p.told(), steps)
			}
			p.stays(nil, x.least...)
			p.stays(all(), x.most...)
			p.staysAlike()
			if stopped {
				bad(t, p)
			}
		}
	}
}

// bad finds out that a bad writer does nothing any more, also if the disk is as it was before.
func bad(t *testing.T, p *both) {
	t.Helper()
	p.restart(all()...)
	steps, file, next, size, done := p.d.Steps(), p.l.File(), p.l.Next(), p.l.Size(), p.l.Done()
	for range 2 {
		want(t, "Append of none by a bad writer", p.append(), api.ErrPoisoned)
		want(t, "Append by a bad writer", p.append(a), api.ErrPoisoned)
		want(t, "Append of none of bytes by a bad writer", p.append(a, api.Entry{}), api.ErrPoisoned)
		want(t, "Sync by a bad writer", p.sync(), api.ErrPoisoned)
		p.holds(file, next, size, true, done)
		if p.d.Steps() != steps {
			t.Fatalf("%s: a bad writer did %d steps", p.told(), p.d.Steps()-steps)
		}
	}
}

// P10.2: a stop at each step of an Append to a file that is there, one that is full and one that is not; and of a Sync.
func TestStopAtEachStepOfAFile(t *testing.T) {
	ab, c8 := framed(a, b), framed(c)
	for i, x := range []struct {
		most, at, file int
		stays          []string
	}{
		{17, 1, 7, []string{"wal-7", ab}},              // Append
		{16, 1, 7, []string{"wal-7", ab}},              // Sync
		{16, 2, 7, []string{"wal-7", ab}},              // Create wal-8
		{16, 3, 7, []string{"wal-7", ab, "wal-8", ""}}, // SyncDir
		{16, 4, 8, []string{"wal-7", ab, "wal-8", ""}}, // Append
	} {
		p := of(t, full(), 7, x.most)
		p.arm(x.at)
		want(t, "Append "+strconv.Itoa(i), p.append(c, a), api.ErrCrash)
		p.holds(x.file, x.file+1, 0, true, 0)
		p.stays(all(), x.stays...)
		p.staysAlike()
		bad(t, p)
	}
	p := of(t, full(), 7, 17)
	p.append(c)
	p.arm(1)
	want(t, "Sync", p.sync(), api.ErrCrash)
	p.holds(7, 8, 0, true, 1)
	p.stays(nil, "wal-7", ab)
	p.stays(all(), "wal-7", ab+c8)
	bad(t, p)
}

// P10.2: what else a step may answer: a new file's name is taken, the file is not there any more.
func TestOtherErrors(t *testing.T) {
	p := start(t, full(), 7, 100)
	want(t, "Append with a name that is taken", p.append(a, b), api.ErrTwice)
	p.holds(0, 7, 0, true, 0)
	p.has("wal-7", framed(a, b))
	bad(t, p)

	p = start(t, disk.Of(files("wal-9", "x"), 100), 8, 8)
	p.append(a)
	want(t, "Append with the next name taken", p.append(b), api.ErrTwice)
	p.holds(8, 9, 8, true, 1)
	p.stays(nil, "wal-8", framed(a), "wal-9", "x")
	bad(t, p)

	for _, most := range []int{1, 16, 100} {
		p = of(t, full(), 7, most)
		p.meanwhile("Remove", func(d *disk.Disk) { d.Remove("wal-7") })
		p.holds(7, 8, 0, false, 0)
		want(t, "Append to what is not there", p.append(a), api.ErrNone)
		p.holds(7, 8, 0, true, 0)
		p.has()
		bad(t, p)

		p = of(t, full(), 7, most)
		p.meanwhile("Rename", func(d *disk.Disk) { d.Rename("wal-7", "wal-5") })
		want(t, "Sync of what is not there", p.sync(), api.ErrNone)
		p.holds(7, 8, 0, true, 0)
		bad(t, p)
	}
}

// P10.2, P10.3: whether a file is full is what the disk reads of it, whoever wrote that.
func TestSizeIsTheDisks(t *testing.T) {
	p := start(t, room(), 1, 20)
	p.append(a)
	p.meanwhile("Append", func(d *disk.Disk) { d.Append("wal-1", strings.Repeat("x", 11)) })
	p.holds(1, 2, 19, false, 1)
	p.append(b)
	p.holds(1, 2, 27, false, 2)
	p.meanwhile("Truncate", func(d *disk.Disk) { d.Truncate("wal-1", 19) })
	p.append(c)
	p.holds(1, 2, 27, false, 3)
	p.meanwhile("Truncate", func(d *disk.Disk) { d.Truncate("wal-1", 20) })
	p.holds(1, 2, 20, false, 3)
	p.append(a)
	p.holds(2, 3, 8, false, 4)
	p.restart()
	p.holds(2, 3, 0, false, 4)
	p.append(b)
	p.holds(2, 3, 8, false, 5)
	p.meanwhile("Remove", func(d *disk.Disk) { d.Remove("wal-1") })
	p.append(c)
	p.append(a)
	p.holds(2, 3, 24, false, 7)
	p.append(b)
	p.has("wal-2", framed(b, c, a), "wal-3", framed(b))
}

// P10.2: Sync without a file is no step; with one it is just one, of that file alone, as often as it is called.
func TestSync(t *testing.T) {
	p := start(t, full(), 8, 12)
	p.arm(1)
	for range 3 {
		want(t, "Sync with no file", p.sync(), api.OK)
		p.holds(0, 8, 0, false, 0)
	}
	if p.d.Steps() != 0 || p.d.Down() {
		t.Errorf("Sync with no file is a step")
	}
	p.arm(0)
	p.append(a)
	p.meanwhile("Append", func(d *disk.Disk) { d.Append("wal-7", "x") })
	p.meanwhile("Create", func(d *disk.Disk) { d.Create("y") })
	p.stays(names(), "wal-7", framed(a, b), "wal-8", "", "y", "")
	for range 3 {
		steps := p.d.Steps()
		want(t, "Sync", p.sync(), api.OK)
		p.holds(8, 9, 8, false, 1)
		if n := p.d.Steps() - steps; n != 1 {
			t.Errorf("Sync is %d steps", n)
		}
		p.stays(nil, "wal-7", framed(a, b), "wal-8", framed(a))
	}
	p = of(t, full(), 7, 100)
	p.append(c)
	p.sync()
	p.stays(nil, "wal-7", framed(a, b, c))
	p.append(a)
	p.stays(nil, "wal-7", framed(a, b, c))
	p.stays([]uint16{0, 0, 5}, "wal-7", framed(a, b, c)+framed(a)[:5])
	p.stays([]uint16{0, 1}, "wal-7", framed(a, b, c, a))
}

// P10.2: each frame is one act, which may be cut anywhere, or stay whole without what comes behind it.
func TestEachFrameIsOneAct(t *testing.T) {
	l := []api.Entry{a, sized(20), {Word: "gone", Gone: true}, sized(40), c}
	p := start(t, room(), 1, 1000)
	p.append(l...)
	for done := range len(l) {
		whole := framed(l[:done]...)
		next := framed(l[done])
		for part := range len(next) + 2 {
			p.stays([]uint16{0, uint16(done), uint16(part)}, "wal-1", whole+next[:min(part, len(next))])
		}
	}
}

// P10.3, P1: each call of a writer that is none, of the zero one too, which has no disk.
func TestNoWriter(t *testing.T) {
	for what, l := range map[string]*wal.Log{"no writer": nil, "a zero writer": {}, "one of no disk": wal.New(nil, 1, 1), "one of no log": wal.Of(room(), 1, 1)} {
		for range 2 {
			want(t, "Append of none of "+what, l.Append(), api.ErrNil)
			want(t, "Append of "+what, l.Append(a, b), api.ErrNil)
			for _, wrong := range invalid() {
				want(t, "Append of none of bytes of "+what, l.Append(a, wrong), api.ErrNil)
			}
			want(t, "Sync of "+what, l.Sync(), api.ErrNil)
			if l.File() != 0 || l.Next() != 0 || l.Size() != 0 || !l.Bad() || l.Done() != 0 {
				t.Errorf("%s: File %d, Next %d, Size %d, Bad %t, Done %d", what, l.File(), l.Next(), l.Size(), l.Bad(), l.Done())
			}
		}
	}
}

// P10.2: entries that are handed in are not changed, and may be changed by their owner behind the call.
func TestWhatIsHandedIn(t *testing.T) {
	was := []api.Entry{a, {Word: "gone", Weight: 9, Gone: true}, c}
	l := append(slices.Clone(was), b)[:3]
	p := start(t, room(), 1, 1000)
	p.append(l...)
	if !slices.Equal(l, was) || l[:4][3] != b {
		t.Errorf("the entries are %v now", l[:4])
	}
	l[0], l[1].Word, l[2] = b, "changed", api.Entry{}
	p.append(b)
	p.has("wal-1", framed(append(was, b)...))
	there := files("wal-4", framed(a))
	d := disk.Of(there, 100)
	want(t, "Append", wal.Of(d, 4, 100).Append(b), api.OK)
	if !slices.Equal(there, files("wal-4", framed(a))) {
		t.Errorf("the files are %q now", there)
	}
}

// Writers of one disk do not know of one another, but by the disk.
func TestTwoWriters(t *testing.T) {
	d := room()
	x, y := wal.New(d, 1, 8), wal.New(d, 5, 1000)
	for _, e := range []api.Entry{a, b, c} {
		want(t, "Append of the first", x.Append(e), api.OK)
		want(t, "Append of the second", y.Append(e, e), api.OK)
	}
	if x.File() != 3 || x.Done() != 3 || y.File() != 5 || y.Done() != 6 {
		t.Errorf("the files are %d, %d; done %d, %d", x.File(), y.File(), x.Done(), y.Done())
	}
	want(t, "Append of more than there are names", x.Append(a, b, c), api.ErrTwice)
	want(t, "Append of the other", y.Append(a), api.OK)
	if !x.Bad() || y.Bad() {
		t.Errorf("bad are %t, %t", x.Bad(), y.Bad())
	}
	z := wal.Of(d, 5, 1000)
	want(t, "Append of a third", z.Append(b), api.OK)
	if y.Size() != z.Size() || y.Done() != 7 || z.Done() != 1 {
		t.Errorf("sizes %d, %d; done %d, %d", y.Size(), z.Size(), y.Done(), z.Done())
	}
}

// A writer has the chapter's calls alone: the disk's are not to be had of it, for they would go past it.
func TestDiskIsHidden(t *testing.T) {
	var l []string
	typ := reflect.TypeFor[*wal.Log]()
	for i := range typ.NumMethod() {
		l = append(l, typ.Method(i).Name)
	}
	if !slices.Equal(l, []string{"Append", "Bad", "Done", "File", "Next", "Size", "Sync"}) {
		t.Errorf("a writer's calls are %q", l)
	}
	if fields := reflect.VisibleFields(typ.Elem()); slices.ContainsFunc(fields, func(f reflect.StructField) bool { return f.IsExported() }) {
		t.Error("a writer has a field that others may change")
	}
}

// calls are what may be called of a writer, and what may befall its disk.
func calls() []func(p *both) {
	x := sized(12)
	return []func(p *both){
		func(p *both) { p.append() },
		func(p *both) { p.append(a) },
		func(p *both) { p.append(x) },
		func(p *both) { p.append(b, api.Entry{Word: "c", Gone: true}, x) },
		func(p *both) { p.append(b, api.Entry{}, c) },
		func(p *both) { p.sync() },
		func(p *both) { p.arm(1) },
		func(p *both) { p.arm(2) },
		func(p *both) { p.arm(4) },
		func(p *both) { p.restart() },
		func(p *both) { p.restart(all()...) },
		func(p *both) { p.restart(1, 1, 3, 0, 2) },
		func(p *both) { p.meanwhile("Remove 1", func(d *disk.Disk) { d.Remove("wal-1") }) },
		func(p *both) { p.meanwhile("Create 2", func(d *disk.Disk) { d.Create("wal-2") }) },
	}
}

// All short rows of calls, held against the words.
func TestShortRows(t *testing.T) {
	l := calls()
	writers := []func() *both{
		func() *both { return start(t, disk.New(1000), 1, 12) },
		func() *both { return start(t, disk.New(30), 1, 8) },
		func() *both { return start(t, disk.New(1000), last, 9) },
		func() *both { return of(t, disk.Of(files("wal-1", framed(a)), 1000), 1, 9) },
		func() *both { return of(t, disk.Of(files("wal-1", framed(a)), 1000), 1, 8) },
		func() *both { return of(t, disk.Of(files("wal-1", framed(a)), 21), 1, 20) },
	}
	for _, writer := range writers {
		for i := range len(l) * len(l) * len(l) {
			p := writer()
			p.alike()
			l[i%len(l)](p)
			l[i/len(l)%len(l)](p)
			l[i/len(l)/len(l)](p)
			p.staysAlike()
		}
	}
}

// Long rows of calls, held against the words.
func TestLongRows(t *testing.T) {
	n := numbers(2)
	for range 400 {
		quota := []int{math.MaxInt, 2000, 500}[n.below(3)]
		p := start(t, disk.New(quota), 1+n.below(12), 1+n.below(80))
		for range 30 {
			switch n.below(12) {
			case 0:
				p.sync()
			case 1:
				p.append(append(n.entries(3), api.Entry{})...)
			case 2:
				if n.below(20) == 0 {
					p.arm(n.below(9))
				}
			case 3:
				p.restart(uint16(n.below(3)), uint16(n.below(4)), uint16(n.below(30)), 9, 9)
			default:
				p.append(n.entries(4)...)
			}
		}
		p.staysAlike()
	}
}

// run is appends and Syncs (nil), one behind the other, by a writer whose first file is of that number.
type run struct {
	first, most, quota int
	calls              [][]api.Entry
}

// did is what a run did on a disk.
type did struct {
	d *disk.Disk
	l *wal.Log
	// What was appended, and all of which a beginning may be there: with a frame that did not fit.
	appended, most string
	// How many bytes are there whatever stays: those that were appended ahead of the last Sync that answered OK, and those of all files but the last one.
	sure int
}

// do does the run, up to the first error, with a stop at that step.
func (r run) do(t *testing.T, stop int) did {
	t.Helper()
	x := did{d: disk.New(r.quota)}
	x.d.Arm(stop)
	x.l = wal.New(x.d, r.first, r.most)
	var asked []api.Entry
	for _, l := range r.calls {
		asked = append(asked, l...)
		e := api.OK
		if l == nil {
			e = x.l.Sync()
		} else {
			e = x.l.Append(l...)
		}
		x.appended = framed(asked[:x.l.Done()]...)
		x.most = x.appended
		if e == api.ErrFull {
			x.most = framed(asked[:x.l.Done()+1]...)
		}
		if e != api.OK {
			break
		}
		if l == nil {
			x.sure = len(x.appended)
		}
	}
	c := x.d.Copy()
	c.Restart(all())
	x.sure = max(x.sure, len(read(c, r.first, x.l.File()-1)))
	return x
}

// holds finds out whether what is there, of the files of a run, is a beginning of what was appended, with all that is sure.
func (x did) holds(t *testing.T, r run, d *disk.Disk, what string) {
	t.Helper()
	numbers := name.Numbers(api.NameLog, d.List()...)
	if len(numbers) != len(d.List()) {
		t.Fatalf("%s: there are other files: %q", what, d.List())
	}
	there := ""
	for i, n := range numbers {
		s, _ := d.ReadAt(log(n), 0, math.MaxInt)
		there += s
		if n != r.first+i {
			t.Fatalf("%s: the logs are %d", what, numbers)
		}
		if i == len(numbers)-1 {
			continue
		}
		if _, good, e := frame.All(s); len(s) < r.most || good != len(s) || e != api.OK {
			t.Fatalf("%s: a log that is not the last one has %d bytes, good %d, %d", what, len(s), good, e)
		}
	}
	if len(there) < x.sure || !strings.HasPrefix(x.most, there) {
		t.Fatalf("%s: of %d bytes, %d sure, there are %d", what, len(x.most), x.sure, len(there))
	}
}

// runs are some runs.
func runs() []run {
	n := numbers(3)
	l := []run{{5, 12, 1000, [][]api.Entry{{a}, {b}, {c}, nil}}, {9, 8, 20, [][]api.Entry{{a, b, c}, nil}}, {1, 1, 1000, [][]api.Entry{nil, {a, b}, nil, nil, {c}}}}
	for most := 1; most < 50; most += 3 {
		r := run{first: 7 + n.below(6), most: most, quota: 60 + n.below(400)}
		for range 8 {
			if n.below(3) == 0 {
				r.calls = append(r.calls, nil)
			} else {
				r.calls = append(r.calls, append(n.entries(3), a))
			}
		}
		l = append(l, r)
	}
	return l
}

// P10.4: without a stop the files have just the frames, all but the last one are full and durable; behind a stop at each step, whatever stays, they have a beginning of them.
func TestWhatStays(t *testing.T) {
	for i, r := range runs() {
		for stop, stopped := 0, true; stopped; stop++ {
			x := r.do(t, stop)
			stopped = x.d.Down() || stop == 0
			what := "run " + strconv.Itoa(i) + ", stop " + strconv.Itoa(stop)
			if !x.d.Down() {
				x.holds(t, r, x.d, what)
				if s := read(x.d, r.first, math.MaxInt); !strings.HasPrefix(s, x.appended) || !x.l.Bad() && s != x.appended {
					t.Fatalf("%s: the files have %q, appended was %q", what, s, x.appended)
				}
			}
			for row := range stays(x.d) {
				d := x.d.Copy()
				d.Restart(row)
				x.holds(t, r, d, what)
				if !x.d.Down() && x.l.File() > 0 && !slices.Contains(d.List(), log(x.l.File())) {
					t.Fatalf("%s: a name does not last", what)
				}
			}
		}
	}
}

// read is what is read of all logs from that one to that one, one behind the other.
func read(d *disk.Disk, from, to int) string {
	s := ""
	for n := from; n <= to; n++ {
		more, e := d.ReadAt(log(n), 0, math.MaxInt)
		if e != api.OK {
			break
		}
		s += more
	}
	return s
}

// stays tells rows of what may stay of a disk: of all files alike, and of each by itself.
func stays(d *disk.Disk) func(yield func([]uint16) bool) {
	n := numbers(4)
	return func(yield func([]uint16) bool) {
		for dir := range uint16(3) {
			for done := range uint16(4) {
				for part := range uint16(10) {
					if !yield(append([]uint16{dir}, slices.Repeat([]uint16{done, part}, 30)...)) {
						return
					}
				}
			}
		}
		for range 60 {
			row := []uint16{uint16(n.below(3))}
			for range 60 {
				row = append(row, uint16(n.below(14)))
			}
			if !yield(row) {
				return
			}
		}
		yield(nil)
		yield(all())
	}
}

// P10.4: a file that is full is not written any more, nor is any other file of the disk.
func TestOthersAreNotWritten(t *testing.T) {
	others := files("manifest", "m", "seg-1", "s", "wal-1", "one", "wal-5", framed(a, b), "wal-99", "much later")
	p := of(t, disk.Of(others, 10000), 5, 16)
	n := numbers(5)
	was := map[string]string{}
	for _, f := range others {
		was[f.Name] = f.Bytes
	}
	for range 80 {
		p.append(n.entries(2)...)
		p.sync()
		for _, f := range p.d.Files() {
			if s, is := was[f.Name]; is && s != f.Bytes {
				t.Fatalf("%s: %s was %q, and is %q", p.told(), f.Name, s, f.Bytes)
			}
			if number := p.l.File(); f.Name != log(number) {
				was[f.Name] = f.Bytes
			}
		}
	}
	if p.l.File() < 20 {
		t.Errorf("there are %d files only", p.l.File())
	}
}

// Long rows of entries end soon enough, into one file and into many, in one call and in many.
func TestMany(t *testing.T) {
	const many = 20000
	e := api.Entry{Word: "word", Weight: 5}
	size := len(framed(e))
	for _, most := range []int{1, 1000, 100000, math.MaxInt} {
		d := room()
		l := wal.New(d, 1, most)
		for range many {
			want(t, "Append", l.Append(e), api.OK)
		}
		want(t, "Append of many", l.Append(slices.Repeat([]api.Entry{e}, many)...), api.OK)
		// The entries of a file that is full, and the files that there are then.
		each := (most-1)/size + 1
		logs := (2*many-1)/each + 1
		if l.Done() != 2*many || d.Used() != 2*many*size || l.File() != logs || len(d.List()) != logs {
			t.Errorf("done are %d, used %d, the file is %d, of %d", l.Done(), d.Used(), l.File(), logs)
		}
	}
}
