package disk_test

import (
	"maps"
	"math"
	"runtime"
	"slices"
	"strconv"
	"strings"
	"testing"

	"cedilla/api"
	"cedilla/disk"
)

// deed is an act of a file: bytes that are appended, or a cut to a number of bytes.
type deed struct {
	adds string
	cuts bool
	to   int
}

// text is a file as chapter 6 tells it.
type text struct {
	durable string
	deeds   []deed
}

// behind is what is read behind the first deeds.
func (f text) behind(many int) string {
	s := f.durable
	for _, d := range f.deeds[:many] {
		if d.cuts {
			s = s[:d.to]
		} else {
			s += d.adds
		}
	}
	return s
}

func (f text) read() string { return f.behind(len(f.deeds)) }

// stays is what stays of a choice, of numbers that are not below 0.
func (f text) stays(done, part int) string {
	if done >= len(f.deeds) {
		return f.read()
	}
	s, next := f.behind(done), f.deeds[done]
	if next.cuts {
		return s
	}
	return s + next.adds[:min(part, len(next.adds))]
}

// words is a disk as the chapters' words tell it: what lasts of the folder and what was there behind each act since then, every file that there ever was, and the steps.
type words struct {
	quota int
	was   []map[string]int
	texts []text
	steps int
	// The step, counted from the first one on, at which it stops; 0: none.
	stop int
	down bool
}

func (w words) there() map[string]int { return w.was[len(w.was)-1] }

// copied is the same words, of which none are changed with the others.
func (w words) copied() words {
	w.was = slices.Clone(w.was)
	for i, m := range w.was {
		w.was[i] = maps.Clone(m)
	}
	w.texts = slices.Clone(w.texts)
	for i, f := range w.texts {
		w.texts[i].deeds = slices.Clone(f.deeds)
	}
	return w
}

// next is what is there, to be changed, as what will be there behind one more act.
func (w *words) next() map[string]int {
	m := maps.Clone(w.there())
	w.was = append(w.was, m)
	return m
}

func (w words) names() []string {
	if w.down {
		return nil
	}
	return slices.Sorted(maps.Keys(w.there()))
}

func (w words) files() []api.File {
	var l []api.File
	for _, name := range w.names() {
		l = append(l, api.File{Name: name, Bytes: w.texts[w.there()[name]].read()})
	}
	return l
}

func (w words) used() int {
	sum := 0
	for _, f := range w.files() {
		sum += len(f.Bytes)
	}
	return sum
}

func (w words) room() int {
	if used := w.used(); used < w.quota {
		return w.quota - used
	}
	return 0
}

// step counts a step, and does it, if that may be.
func (w *words) step(do func() api.Errno) api.Errno {
	w.steps++
	if w.steps == w.stop {
		w.down = true
	}
	if w.down {
		return api.ErrCrash
	}
	return do()
}

func mayBe(name string) bool { return len(name) >= 1 && len(name) <= 64 }

func (w *words) create(name string) api.Errno {
	return w.step(func() api.Errno {
		if !mayBe(name) {
			return api.ErrArg
		}
		if _, is := w.there()[name]; is {
			return api.ErrTwice
		}
		w.texts = append(w.texts, text{})
		w.next()[name] = len(w.texts) - 1
		return api.OK
	})
}

// at does a step at a file that is there.
func (w *words) at(name string, do func(f *text) api.Errno) api.Errno {
	return w.step(func() api.Errno {
		n, is := w.there()[name]
		if !is {
			return api.ErrNone
		}
		return do(&w.texts[n])
	})
}

func (w *words) append(name string, l ...string) api.Errno {
	return w.at(name, func(f *text) api.Errno {
		s, e := strings.Join(l, ""), api.OK
		if len(s) > w.room() {
			s, e = s[:w.room()], api.ErrFull
		}
		if s != "" {
			f.deeds = append(f.deeds, deed{adds: s})
		}
		return e
	})
}

func (w *words) truncate(name string, n int) api.Errno {
	return w.at(name, func(f *text) api.Errno {
		many := len(f.read())
		if n < 0 || n > many {
			return api.ErrRange
		}
		if n != many {
			f.deeds = append(f.deeds, deed{cuts: true, to: n})
		}
		return api.OK
	})
}

func (w *words) sync(name string) api.Errno {
	return w.at(name, func(f *text) api.Errno {
		*f = text{durable: f.read()}
		return api.OK
	})
}

func (w *words) syncDir() api.Errno {
	return w.step(func() api.Errno {
		w.was = w.was[len(w.was)-1:]
		return api.OK
	})
}

func (w *words) rename(a, b string) api.Errno {
	return w.step(func() api.Errno {
		if !mayBe(b) {
			return api.ErrArg
		}
		n, is := w.there()[a]
		if !is {
			return api.ErrNone
		}
		m := w.next()
		if a != b {
			m[b] = n
			delete(m, a)
		}
		return api.OK
	})
}

func (w *words) remove(name string) api.Errno {
	return w.step(func() api.Errno {
		if _, is := w.there()[name]; !is {
			return api.ErrNone
		}
		delete(w.next(), name)
		return api.OK
	})
}

func (w words) readAt(name string, at, n int) (string, api.Errno) {
	if w.down {
		return "", api.ErrCrash
	}
	number, is := w.there()[name]
	if !is {
		return "", api.ErrNone
	}
	s := w.texts[number].read()
	if at < 0 || n < 0 || at > len(s) {
		return "", api.ErrRange
	}
	if n > len(s)-at {
		n = len(s) - at
	}
	return s[at : at+n], api.OK
}

func (w words) size(name string) (int, api.Errno) {
	if w.down {
		return 0, api.ErrCrash
	}
	number, is := w.there()[name]
	if !is {
		return 0, api.ErrNone
	}
	return len(w.texts[number].read()), api.OK
}

func (w *words) arm(n int) {
	w.stop = 0
	if n >= 1 {
		w.stop = w.steps + n
	}
}

func (w *words) restart(l []uint16) {
	next := func() int {
		if len(l) == 0 {
			return 0
		}
		n := int(l[0])
		l = l[1:]
		return n
	}
	acts := min(next(), len(w.was)-1)
	w.was = w.was[acts : acts+1]
	w.down, w.stop = false, 0
	for _, name := range w.names() {
		f := &w.texts[w.there()[name]]
		done := next()
		*f = text{durable: f.stays(done, next())}
	}
}

// both is a disk, the same by the words, and what was called of it.
type both struct {
	t     *testing.T
	d     *disk.Disk
	w     words
	calls string
}

func start(t *testing.T, quota int) *both {
	w := words{quota: quota, was: []map[string]int{{}}}
	return &both{t: t, d: disk.New(quota), w: w, calls: "New(" + strconv.Itoa(quota) + ")"}
}

// of is both with these files, told as names and bytes by turns.
func of(t *testing.T, quota int, l ...string) *both {
	b := start(t, quota)
	files := files(l...)
	for i, f := range files {
		b.w.was[0][f.Name] = i
		b.w.texts = append(b.w.texts, text{durable: f.Bytes})
	}
	b.d, b.calls = disk.Of(files, quota), "Of("+told(files)+", "+strconv.Itoa(quota)+")"
	return b
}

// files is files of names and bytes by turns.
func files(l ...string) []api.File {
	var files []api.File
	for i := 0; i < len(l); i += 2 {
		files = append(files, api.File{Name: l[i], Bytes: l[i+1]})
	}
	return files
}

// told is files in one text.
func told(l []api.File) string {
	var parts []string
	for _, f := range l {
		parts = append(parts, short(f.Name)+":"+short(f.Bytes))
	}
	return strings.Join(parts, " ")
}

// copied is a copy of both.
func (b *both) copied() *both {
	return &both{t: b.t, d: b.d.Copy(), w: b.w.copied(), calls: b.calls + " Copy()"}
}

// answered finds out whether a call answered what the words say, and whether the disk is behind it what they say.
func (b *both) answered(call string, got, want api.Errno) {
	b.t.Helper()
	b.calls += " " + call
	if got != want {
		b.t.Fatalf("%s: %d, not %d", b.told(), got, want)
	}
	b.alike()
}

func (b *both) create(name string) {
	b.t.Helper()
	b.answered("Create("+short(name)+")", b.d.Create(name), b.w.create(name))
}

func (b *both) append(name string, l ...string) {
	b.t.Helper()
	b.answered("Append("+short(name)+", "+strconv.Itoa(len(l))+" texts: "+short(strings.Join(l, "|"))+")", b.d.Append(name, l...), b.w.append(name, l...))
}

func (b *both) truncate(name string, n int) {
	b.t.Helper()
	b.answered("Truncate("+short(name)+", "+strconv.Itoa(n)+")", b.d.Truncate(name, n), b.w.truncate(name, n))
}

func (b *both) sync(name string) {
	b.t.Helper()
	b.answered("Sync("+short(name)+")", b.d.Sync(name), b.w.sync(name))
}

func (b *both) syncDir() {
	b.t.Helper()
	b.answered("SyncDir()", b.d.SyncDir(), b.w.syncDir())
}

func (b *both) rename(x, y string) {
	b.t.Helper()
	b.answered("Rename("+short(x)+", "+short(y)+")", b.d.Rename(x, y), b.w.rename(x, y))
}

func (b *both) remove(name string) {
	b.t.Helper()
	b.answered("Remove("+short(name)+")", b.d.Remove(name), b.w.remove(name))
}

func (b *both) arm(n int) {
	b.t.Helper()
	b.d.Arm(n)
	b.w.arm(n)
	b.answered("Arm("+strconv.Itoa(n)+")", api.OK, api.OK)
}

func (b *both) restart(l ...uint16) {
	b.t.Helper()
	b.d.Restart(l)
	b.w.restart(l)
	call := "Restart("
	for _, n := range l {
		call += " " + strconv.Itoa(int(n))
	}
	b.answered(call+")", api.OK, api.OK)
}

// asked is names that are asked for, whether they are there or not.
var asked = []string{"", "a", "b", "c", "d", "ab", "a\x00", "A", "\xff", "manifest", long(64), long(65)}

// alike finds out whether the disk is what the words say.
func (b *both) alike() {
	b.t.Helper()
	if l, want := b.d.List(), b.w.names(); !slices.Equal(l, want) {
		b.t.Fatalf("%s: List is %q, not %q", b.told(), l, want)
	}
	if l, want := b.d.Files(), b.w.files(); !slices.Equal(l, want) {
		b.t.Fatalf("%s: Files are %s, not %s", b.told(), told(l), told(want))
	}
	if n, want := b.d.Used(), b.w.used(); n != want {
		b.t.Fatalf("%s: Used is %d, not %d", b.told(), n, want)
	}
	if n := b.d.Quota(); n != b.w.quota {
		b.t.Fatalf("%s: Quota is %d, not %d", b.told(), n, b.w.quota)
	}
	if n := b.d.Steps(); n != b.w.steps {
		b.t.Fatalf("%s: Steps are %d, not %d", b.told(), n, b.w.steps)
	}
	if is := b.d.Down(); is != b.w.down {
		b.t.Fatalf("%s: Down is %t", b.told(), is)
	}
	for _, name := range asked {
		want, why := b.w.size(name)
		if n, e := b.d.Size(name); n != want || e != why {
			b.t.Fatalf("%s: Size(%s) is %d, %d, not %d, %d", b.told(), short(name), n, e, want, why)
		}
		b.reads(name, 0, want)
		b.reads(name, 1, 2)
	}
}

func (b *both) reads(name string, at, n int) {
	b.t.Helper()
	want, why := b.w.readAt(name, at, n)
	if s, e := b.d.ReadAt(name, at, n); s != want || e != why {
		b.t.Fatalf("%s: ReadAt(%s, %d, %d) is %s, %d, not %s, %d", b.told(), short(name), at, n, short(s), e, short(want), why)
	}
}

// is finds out whether the disk has just these files, told as names and bytes by turns.
func (b *both) is(l ...string) {
	b.t.Helper()
	want, names, sum := files(l...), []string(nil), 0
	for _, f := range want {
		names, sum = append(names, f.Name), sum+len(f.Bytes)
	}
	if got := b.d.Files(); !slices.Equal(got, want) {
		b.t.Errorf("%s: Files are %s, not %s", b.told(), told(got), told(want))
	}
	if got := b.d.List(); !slices.Equal(got, names) {
		b.t.Errorf("%s: List is %q, not %q", b.told(), got, names)
	}
	if n := b.d.Used(); n != sum {
		b.t.Errorf("%s: Used is %d, not %d", b.told(), n, sum)
	}
}

// told is the calls, of many the last ones.
func (b *both) told() string {
	if len(b.calls) > 700 {
		return ".." + b.calls[len(b.calls)-700:]
	}
	return b.calls
}

// short is a text, of a long one its beginning and its size.
func short(s string) string {
	if len(s) > 24 {
		return strconv.QuoteToASCII(s[:24]) + ".. of " + strconv.Itoa(len(s))
	}
	return strconv.QuoteToASCII(s)
}

// long is a text of so many bytes.
func long(size int) string { return strings.Repeat("n", size) }

// want finds out whether an answer is the one that is asked for.
func want(t *testing.T, call string, got, want api.Errno) {
	t.Helper()
	if got != want {
		t.Errorf("%s: %d, not %d", call, got, want)
	}
}

// numbers makes the same row of numbers in each run.
type numbers uint64

func (n *numbers) below(most int) int {
	*n = *n*6364136223846793005 + 1442695040888963407
	return int(*n>>33) % most
}

// name is one of a few names, so that they meet, now and then one that may be none.
func (n *numbers) name() string {
	if n.below(15) == 0 {
		return []string{"", long(65), long(64), long(1000)}[n.below(4)]
	}
	return asked[1+n.below(5)]
}

// bytes is a text of any bytes.
func (n *numbers) bytes(size int) string {
	b := make([]byte, size)
	for i := range b {
		b[i] = byte(n.below(256))
	}
	return string(b)
}

// row is numbers for a restart, most of them about what there is.
func (n *numbers) row() []uint16 {
	l := make([]uint16, n.below(12))
	for i := range l {
		l[i] = uint16(n.below(6))
		if n.below(10) == 0 {
			l[i] = []uint16{255, 256, 257, 32767, 32768, 65534, 65535}[n.below(7)]
		}
	}
	return l
}

// step calls any one of the steps.
func (n *numbers) step(b *both) {
	b.t.Helper()
	name := n.name()
	switch n.below(16) {
	case 0, 1, 2:
		b.create(name)
	case 3, 4, 5, 6:
		var l []string
		for range n.below(4) {
			l = append(l, n.bytes(n.below(6)))
		}
		b.append(name, l...)
	case 7, 8:
		size, _ := b.d.Size(name)
		b.truncate(name, n.below(size+3)-1)
	case 9, 10:
		b.sync(name)
	case 11, 12:
		b.syncDir()
	case 13, 14:
		b.rename(name, n.name())
	default:
		b.remove(name)
	}
}

// any calls any one of the calls that change the disk.
func (n *numbers) any(b *both) {
	b.t.Helper()
	switch n.below(20) {
	case 0:
		b.arm(n.below(8) - 1)
	case 1:
		b.restart(n.row()...)
	default:
		if b.d.Down() && n.below(4) == 0 {
			b.restart(n.row()...)
		}
		n.step(b)
	}
}

// edges are numbers at which a call may go wrong, about the most that there is.
func edges(most int) []int {
	return []int{math.MinInt, math.MinInt + 1, -300, -2, -1, 0, 1, 2, most / 2, most - 1, most, most + 1, most + 2, most + 300, 1 << 31, 1 << 32, math.MaxInt - 1, math.MaxInt}
}

// steps are all steps, each with these names, and a number.
func steps(d *disk.Disk, a, b string, n int) map[string]func() api.Errno {
	return map[string]func() api.Errno{
		"Create":           func() api.Errno { return d.Create(a) },
		"Append":           func() api.Errno { return d.Append(a, b, "x") },
		"Append of none":   func() api.Errno { return d.Append(a) },
		"Truncate":         func() api.Errno { return d.Truncate(a, n) },
		"Sync":             func() api.Errno { return d.Sync(a) },
		"SyncDir":          func() api.Errno { return d.SyncDir() },
		"Rename":           func() api.Errno { return d.Rename(a, b) },
		"Rename to itself": func() api.Errno { return d.Rename(a, a) },
		"Remove":           func() api.Errno { return d.Remove(a) },
	}
}

// P8.1 to P8.4: the examples of the chapter.
func TestExamples(t *testing.T) {
	b := start(t, 10)
	b.create("a")
	want(t, "Append hello", b.d.Copy().Append("a", "hello"), api.OK)
	b.append("a", "hello")
	want(t, "Append world!", b.d.Copy().Append("a", "world!"), api.ErrFull)
	b.append("a", "world!")
	b.is("a", "helloworld")
	b.restart()
	b.is()
	for stays, read := range map[uint16]string{0: "xy", 1: "xyz"} {
		c := b.copied()
		want(t, "Create a", c.d.Copy().Create("a"), api.OK)
		c.create("a")
		c.append("a", "xy")
		c.sync("a")
		c.syncDir()
		c.append("a", "z")
		c.is("a", "xyz")
		c.restart(0, stays)
		c.is("a", read)
	}
	d := disk.New(10)
	d.Arm(2)
	want(t, "Create b", d.Create("b"), api.OK)
	want(t, "Create c", d.Create("c"), api.ErrCrash)
	want(t, "Create d", d.Create("d"), api.ErrCrash)
	if !d.Down() {
		t.Error("it is not down")
	}
}

// P8.1: a new disk has nothing, and each quota from 0 on may be.
func TestNew(t *testing.T) {
	for _, quota := range edges(10) {
		d := disk.New(quota)
		if quota < 0 {
			if d != nil {
				t.Errorf("New(%d) is a disk", quota)
			}
			continue
		}
		if d == nil {
			t.Fatalf("New(%d) is no disk", quota)
		}
		b := start(t, quota)
		b.alike()
		b.is()
		if d.Quota() != quota || d.Steps() != 0 || d.Down() || len(d.List()) != 0 || len(d.Files()) != 0 || d.Used() != 0 {
			t.Errorf("New(%d): %d, %d, %t, %q", quota, d.Quota(), d.Steps(), d.Down(), d.List())
		}
		b.create("a")
		b.append("a", "x")
		b.append("a", "yz")
		if s, _ := b.d.ReadAt("a", 0, 9); s != "xyz"[:min(quota, 3)] {
			t.Errorf("of a quota of %d there is %q", quota, s)
		}
	}
	if one, other := disk.New(3), disk.New(3); one == other {
		t.Error("New answers one disk twice")
	}
}

// P8.1: of files there is a disk on which all lasts, and is durable, with no step; more than the quota may be.
func TestOf(t *testing.T) {
	for _, l := range [][]string{
		{},
		{"a", ""},
		{"a", "xyz"},
		{"b", "xy", "a", "", "c", "\x00\xff"},
		{long(64), "x", "n", "y", "\xff", "z", "\x00", long(300)},
	} {
		for _, quota := range []int{0, 1, 2, 3, 4, 100, math.MaxInt} {
			b := of(t, quota, l...)
			b.alike()
			if b.d.Quota() != quota || b.d.Steps() != 0 || b.d.Down() {
				t.Errorf("%s: %d, %d, %t", b.told(), b.d.Quota(), b.d.Steps(), b.d.Down())
			}
			sorted := files(l...)
			slices.SortFunc(sorted, func(f, g api.File) int { return strings.Compare(f.Name, g.Name) })
			for _, numbers := range [][]uint16{nil, {0, 0, 0}, {9, 9, 9, 9, 9}} {
				c := b.copied()
				c.restart(numbers...)
				if got := c.d.Files(); !slices.Equal(got, sorted) {
					t.Errorf("%s: %s, not %s", c.told(), told(got), told(sorted))
				}
				c.create("d")
				c.append("d", "wxyz")
				c.restart()
			}
		}
	}
	if d := disk.Of(nil, 5); d == nil || len(d.List()) != 0 || d.Quota() != 5 {
		t.Error("Of no files is none, or has some")
	}
	if one, other := disk.Of(nil, 5), disk.Of(nil, 5); one == other {
		t.Error("Of answers one disk twice")
	}
}

// P8.1: of files that may not be, and of a quota that may not be, there is no disk.
func TestOfNone(t *testing.T) {
	for _, l := range [][]string{
		{"", ""},
		{"", "x"},
		{long(65), ""},
		{long(66), ""},
		{long(1000), ""},
		{"a", "x", "", "y"},
		{"", "x", "a", "y"},
		{"a", "x", long(65), "y", "b", "z"},
		{"a", "x", "a", "x"},
		{"a", "x", "a", "y"},
		{"a", "", "b", "", "a", ""},
		{"a", "", "b", "", "c", "", "b", ""},
		{long(64), "", long(64), ""},
		{"", "", "", ""},
	} {
		for _, quota := range []int{-1, 0, 100, math.MaxInt} {
			if d := disk.Of(files(l...), quota); d != nil {
				t.Errorf("Of(%q, %d) is a disk: %q", l, quota, d.List())
			}
		}
	}
	for _, quota := range []int{math.MinInt, -300, -2, -1} {
		for _, l := range [][]string{{}, {"a", ""}, {"a", "x", "b", "y"}} {
			if d := disk.Of(files(l...), quota); d != nil {
				t.Errorf("Of(%q, %d) is a disk", l, quota)
			}
		}
	}
	if disk.Of(files("a", "", "A", "", "a ", "", "a\x00", "", "\xc3\xa9", "", "e\xcc\x81", ""), 0) == nil {
		t.Error("names that are other bytes are taken for the same")
	}
}

// P8.2: names of all sizes, to be created, and to be renamed to.
func TestWhatMayBeAName(t *testing.T) {
	for size := range 200 {
		is := api.OK
		if size == 0 || size > 64 {
			is = api.ErrArg
		}
		b := start(t, 9)
		want(t, "Create of "+strconv.Itoa(size), b.d.Copy().Create(long(size)), is)
		b.create(long(size))
		b.create("a")
		want(t, "Rename to "+strconv.Itoa(size), b.d.Copy().Rename("a", long(size)), is)
		b.rename("a", long(size))
		if (disk.Of(files(long(size), ""), 0) != nil) != (is == api.OK) {
			t.Errorf("Of a name of %d bytes is, or is not, a disk", size)
		}
	}
}

// P8.2: a file that was created is empty, also one whose name was there ahead of it, with bytes.
func TestCreate(t *testing.T) {
	b := start(t, 20)
	b.create("a")
	b.is("a", "")
	b.append("a", "xyz")
	want(t, "Create a again", b.d.Copy().Create("a"), api.ErrTwice)
	b.create("a")
	b.is("a", "xyz")
	b.remove("a")
	b.create("a")
	b.is("a", "")
	b.append("a", "u")
	b.rename("a", "b")
	b.create("a")
	b.is("a", "", "b", "u")
	b.sync("b")
	b.syncDir()
	want(t, "Create b again", b.d.Copy().Create("b"), api.ErrTwice)
	b.create("b")
	b.remove("b")
	b.syncDir()
	b.create("b")
	b.is("a", "", "b", "")
	b.restart(1)
	b.is("a", "", "b", "")
}

// P8.2: what is appended, as far as there is room: several texts are one act, nothing is none.
func TestAppend(t *testing.T) {
	for _, x := range []struct {
		quota int
		l     []string
		e     api.Errno
		read  string
	}{
		{10, nil, api.OK, "ab"},
		{10, []string{""}, api.OK, "ab"},
		{10, []string{"", "", ""}, api.OK, "ab"},
		{10, []string{"c"}, api.OK, "abc"},
		{10, []string{"c", "", "de", "f"}, api.OK, "abcdef"},
		{10, []string{"cdefghi", "j"}, api.OK, "abcdefghij"},
		{10, []string{"cdefghij"}, api.OK, "abcdefghij"},
		{10, []string{"cdefghijk"}, api.ErrFull, "abcdefghij"},
		{10, []string{"cdefghij", ""}, api.OK, "abcdefghij"},
		{10, []string{"cdefghij", "k"}, api.ErrFull, "abcdefghij"},
		{10, []string{"cdefg", "hijkl", "mno"}, api.ErrFull, "abcdefghij"},
		{10, []string{"cdefg", "hijklmno", "p"}, api.ErrFull, "abcdefghij"},
		{10, []string{long(100000)}, api.ErrFull, "ab" + long(8)},
		{3, []string{"c"}, api.OK, "abc"},
		{3, []string{"cd"}, api.ErrFull, "abc"},
		{3, []string{"", "c", "d"}, api.ErrFull, "abc"},
		{2, nil, api.OK, "ab"},
		{2, []string{"", ""}, api.OK, "ab"},
		{2, []string{"c"}, api.ErrFull, "ab"},
		{2, []string{"", "c", ""}, api.ErrFull, "ab"},
		{1, nil, api.OK, "ab"},
		{1, []string{""}, api.OK, "ab"},
		{1, []string{"c"}, api.ErrFull, "ab"},
		{0, nil, api.OK, "ab"},
		{0, []string{"c", "d"}, api.ErrFull, "ab"},
		{math.MaxInt, []string{"c", "d"}, api.OK, "abcd"},
	} {
		b := of(t, x.quota, "a", "ab")
		want(t, b.told()+" Append "+short(strings.Join(x.l, "|")), b.d.Copy().Append("a", x.l...), x.e)
		b.append("a", x.l...)
		b.is("a", x.read)
		c := b.copied()
		c.restart(0, 1)
		c.is("a", x.read)
		c = b.copied()
		c.restart(0, 0, uint16(len(x.read)-2))
		c.is("a", x.read)
		b.restart()
		b.is("a", "ab")
	}
}

// P8.2: nothing that is appended is no act, and several texts are one act: what stays tells it.
func TestAppendIsOneAct(t *testing.T) {
	b := of(t, 20, "a", "")
	b.append("a")
	b.append("a", "", "")
	b.append("a", "u", "vw", "x")
	b.append("a", "")
	b.append("a", "y", "z")
	for l, read := range map[[2]uint16]string{{0, 0}: "", {0, 1}: "u", {0, 3}: "uvw", {0, 4}: "uvwx", {0, 5}: "uvwx", {1, 0}: "uvwx", {1, 1}: "uvwxy", {1, 2}: "uvwxyz", {2, 0}: "uvwxyz"} {
		c := b.copied()
		c.restart(0, l[0], l[1])
		c.is("a", read)
	}
	// What a disk without room takes of an append is nothing, so it is no act.
	b = of(t, 3, "a", "x")
	b.append("a", "yzu")
	b.append("a", "v")
	b.append("a", "w", "w")
	b.truncate("a", 2)
	b.append("a", "v")
	for l, read := range map[[2]uint16]string{{0, 0}: "x", {0, 9}: "xyz", {1, 9}: "xyz", {2, 0}: "xy", {2, 1}: "xyv", {3, 0}: "xyv"} {
		c := b.copied()
		c.restart(0, l[0], l[1])
		c.is("a", read)
	}
}

// P8.2: room is the quota less what is used by all files together, and names that are gone use nothing.
func TestRoom(t *testing.T) {
	b := of(t, 10, "a", "123", "b", "4567")
	fits := func(room int) {
		t.Helper()
		c := b.copied()
		c.create("d")
		c.append("d", long(room))
		if n, _ := c.d.Size("d"); n != room {
			t.Errorf("%s: of %d bytes %d were appended", b.told(), room, n)
		}
		want(t, b.told()+" one byte more", c.d.Append("d", "x"), api.ErrFull)
		want(t, b.told()+" no byte more", c.d.Append("d"), api.OK)
	}
	fits(3)
	b.append("a", "x")
	fits(2)
	b.create("c")
	fits(2)
	b.truncate("b", 1)
	fits(5)
	b.truncate("b", 1)
	fits(5)
	b.truncate("b", 2)
	fits(5)
	b.rename("b", "b")
	fits(5)
	b.rename("a", "b")
	fits(6)
	b.rename("c", "b")
	fits(10)
	b.append("b", "12345")
	fits(5)
	b.remove("b")
	fits(10)
	b.remove("b")
	b.rename("b", "a")
	fits(10)
	b.restart()
	b.is("a", "123", "b", "4567")
	fits(3)
	b.remove("a")
	b.syncDir()
	fits(6)
	b.sync("b")
	fits(6)
}

// P8.2: a disk that has more than its quota from the start on has room again once enough of it is gone.
func TestMoreThanTheQuota(t *testing.T) {
	b := of(t, 4, "a", "12345", "b", "67")
	b.append("a", "x")
	b.append("b", "x", "y")
	b.append("b")
	b.is("a", "12345", "b", "67")
	if n := b.d.Used(); n != 7 {
		t.Errorf("%d are used", n)
	}
	b.truncate("a", 2)
	b.append("b", "x")
	b.is("a", "12", "b", "67")
	b.truncate("a", 1)
	b.append("b", "xy")
	b.is("a", "1", "b", "67x")
	b.remove("b")
	b.append("a", "uvwxyz")
	b.is("a", "1uvw")
	// A name that comes back may make it more than the quota, too.
	b.restart(0, 9)
	b.is("a", "1uvw", "b", "67")
	b.append("a", "x")
	b.remove("a")
	b.append("b", "xyz")
	b.is("b", "67xy")
	b.restart()
	b.is("a", "1uvw", "b", "67")
}

// P8.2: cuts to all numbers: none beyond the file's end.
func TestTruncate(t *testing.T) {
	for n := -3; n <= 8; n++ {
		b := of(t, 10, "a", "12345", "b", "6789")
		is := api.OK
		if n < 0 || n > 5 {
			is = api.ErrRange
		}
		want(t, "Truncate to "+strconv.Itoa(n), b.d.Copy().Truncate("a", n), is)
		b.truncate("a", n)
		read := "12345"
		if is == api.OK {
			read = read[:n]
		}
		b.is("a", read, "b", "6789")
		b.append("a", "x")
		b.is("a", read+"x", "b", "6789")
		b.restart()
		b.is("a", "12345", "b", "6789")
	}
	for _, n := range edges(5) {
		of(t, 10, "a", "12345").truncate("a", n)
		of(t, 10, "a", "12345").truncate("b", n)
		of(t, 10, "a", "").truncate("a", n)
	}
}

// P8.2: a Sync makes one file's bytes durable, no other's, and no name; a SyncDir makes names last, and no bytes durable.
func TestSyncs(t *testing.T) {
	b := start(t, 100)
	b.create("a")
	b.create("b")
	b.append("a", "x")
	b.append("b", "y")
	c := b.copied()
	c.sync("a")
	c.restart()
	c.is()
	c = b.copied()
	c.sync("a")
	c.restart(2)
	c.is("a", "x", "b", "")
	c = b.copied()
	c.syncDir()
	c.restart()
	c.is("a", "", "b", "")
	c = b.copied()
	c.syncDir()
	c.sync("b")
	c.append("b", "z")
	c.rename("a", "c")
	c.restart()
	c.is("a", "", "b", "y")
	want(t, "Sync of what is not there", b.d.Copy().Sync("c"), api.ErrNone)
	want(t, "Sync of what may be no name", b.d.Copy().Sync(""), api.ErrNone)
	want(t, "SyncDir of nothing", disk.New(0).SyncDir(), api.OK)
	b.sync("c")
	b.sync("")
	b.sync("a")
	b.sync("a")
	b.syncDir()
	b.syncDir()
	b.restart()
	b.is("a", "x", "b", "")
}

// P8.2: a rename over a name that is there, to itself, and of what is not there.
func TestRename(t *testing.T) {
	b := of(t, 20, "a", "1", "b", "23", "c", "456")
	b.rename("a", "a")
	b.is("a", "1", "b", "23", "c", "456")
	b.rename("a", "b")
	b.is("b", "1", "c", "456")
	b.append("b", "x")
	b.is("b", "1x", "c", "456")
	b.rename("b", "d")
	b.rename("c", "d")
	b.is("d", "456")
	want(t, "Rename of what is gone", b.d.Copy().Rename("a", "d"), api.ErrNone)
	b.rename("a", "d")
	b.rename("a", "a")
	b.is("d", "456")
	// Of the acts, which are 4, each beginning survives; the appended byte is a's.
	for acts, l := range [][]string{
		{"a", "1", "b", "23", "c", "456"},
		{"a", "1", "b", "23", "c", "456"},
		{"b", "1", "c", "456"},
		{"c", "456", "d", "1"},
		{"d", "456"},
		{"d", "456"},
	} {
		c := b.copied()
		c.restart(uint16(acts))
		c.is(l...)
	}
	// Which file gets the byte hangs on the order of the names.
	c := b.copied()
	c.restart(1, 1)
	c.is("a", "1x", "b", "23", "c", "456")
	c = b.copied()
	c.restart(3, 0, 0, 0, 1)
	c.is("c", "456", "d", "1x")
}

// P8.2: what was removed, or written over, is read nowhere; behind a restart it is there again, as it stays, till a SyncDir.
func TestWhatIsGoneMayComeBack(t *testing.T) {
	for _, over := range []bool{false, true} {
		b := of(t, 20, "a", "xy", "b", "u")
		b.append("a", "z")
		if over {
			b.rename("b", "a")
		} else {
			b.remove("a")
		}
		for _, name := range []string{"a", "b"} {
			if s, _ := b.d.ReadAt(name, 0, 9); strings.Contains(s, "x") {
				t.Errorf("%s: %s is %q", b.told(), name, s)
			}
		}
		// Its name is another file's now: that is no act of what was there.
		b.create("d")
		b.rename("d", "a")
		b.append("a", "other")
		b.sync("a")
		c := b.copied()
		c.restart()
		c.is("a", "xy", "b", "u")
		c = b.copied()
		c.restart(0, 1)
		c.is("a", "xyz", "b", "u")
		c = b.copied()
		c.restart(0, 1)
		c.restart(0, 9)
		c.append("a", "!")
		c.is("a", "xyz!", "b", "u")
		b.syncDir()
		b.restart(0, 9, 9)
		if s, _ := b.d.ReadAt("a", 0, 9); s != "other" {
			t.Errorf("%s: a is %q", b.told(), s)
		}
	}
}

// P8.2: which error is answered, where several apply.
func TestWhichError(t *testing.T) {
	for _, x := range []struct {
		call string
		do   func(d *disk.Disk) api.Errno
		e    api.Errno
	}{
		{"Append without room to what is not there", func(d *disk.Disk) api.Errno { return d.Append("c", "x") }, api.ErrNone},
		{"Append without room to what may be no name", func(d *disk.Disk) api.Errno { return d.Append("", "x") }, api.ErrNone},
		{"Append of nothing to what is not there", func(d *disk.Disk) api.Errno { return d.Append("c") }, api.ErrNone},
		{"Append of nothing without room", func(d *disk.Disk) api.Errno { return d.Append("a", "") }, api.OK},
		{"Truncate below 0 of what is not there", func(d *disk.Disk) api.Errno { return d.Truncate("c", -1) }, api.ErrNone},
		{"Truncate to more of what is not there", func(d *disk.Disk) api.Errno { return d.Truncate(long(65), 9) }, api.ErrNone},
		{"Truncate to more", func(d *disk.Disk) api.Errno { return d.Truncate("a", 3) }, api.ErrRange},
		{"Rename of what is not there to what may be none", func(d *disk.Disk) api.Errno { return d.Rename("c", "") }, api.ErrArg},
		{"Rename of what may be none to what is there", func(d *disk.Disk) api.Errno { return d.Rename("", "a") }, api.ErrNone},
		{"Rename of what may be none to itself", func(d *disk.Disk) api.Errno { return d.Rename("", "") }, api.ErrArg},
		{"Rename of what is not there to itself", func(d *disk.Disk) api.Errno { return d.Rename("c", "c") }, api.ErrNone},
		{"Remove of what may be none", func(d *disk.Disk) api.Errno { return d.Remove("") }, api.ErrNone},
		{"Remove of what is not there", func(d *disk.Disk) api.Errno { return d.Remove("c") }, api.ErrNone},
		{"Create of what is there", func(d *disk.Disk) api.Errno { return d.Create("a") }, api.ErrTwice},
		{"Create of what may be none", func(d *disk.Disk) api.Errno { return d.Create("") }, api.ErrArg},
		{"Sync of what may be none", func(d *disk.Disk) api.Errno { return d.Sync(long(65)) }, api.ErrNone},
		{"ReadAt beside what is not there", func(d *disk.Disk) api.Errno { _, e := d.ReadAt("c", -1, -1); return e }, api.ErrNone},
		{"ReadAt beside what is there", func(d *disk.Disk) api.Errno { _, e := d.ReadAt("a", 3, 0); return e }, api.ErrRange},
		{"Size of what may be none", func(d *disk.Disk) api.Errno { _, e := d.Size(""); return e }, api.ErrNone},
	} {
		d := disk.Of(files("a", "xy", "b", "z"), 3)
		want(t, x.call, x.do(d), x.e)
		if l := d.Files(); !slices.Equal(l, files("a", "xy", "b", "z")) || d.Used() != 3 {
			t.Errorf("behind %s there are %s", x.call, told(l))
		}
		// A disk that goes down at the step, or is down, answers that alone, whatever else is wrong.
		if d.Steps() == 1 {
			d.Arm(1)
			want(t, x.call+", armed", x.do(d), api.ErrCrash)
		}
		d.Arm(1)
		d.SyncDir()
		want(t, x.call+", down", x.do(d), api.ErrCrash)
	}
}

// P8.3: what is read at all places, of so many bytes, and how many there are.
func TestReadAt(t *testing.T) {
	b := of(t, 20, "a", "0123456789", "b", "", "ab", "\x00\xff\xc3")
	b.append("a", "xyz")
	b.truncate("a", 11)
	for _, name := range asked {
		size, _ := b.d.Size(name)
		for at := -2; at <= size+2; at++ {
			for n := -2; n <= size+2; n++ {
				b.reads(name, at, n)
			}
		}
		for _, at := range edges(size) {
			for _, n := range edges(size) {
				b.reads(name, at, n)
			}
		}
	}
	if s, e := b.d.ReadAt("a", 8, math.MaxInt); s != "89x" || e != api.OK {
		t.Errorf("ReadAt(a, 8, all) is %q, %d", s, e)
	}
	if s, e := b.d.ReadAt("a", 11, 1); s != "" || e != api.OK {
		t.Errorf("ReadAt(a, 11, 1) is %q, %d", s, e)
	}
	if n, e := b.d.Size("a"); n != 11 || e != api.OK {
		t.Errorf("Size(a) is %d, %d", n, e)
	}
	if n, e := b.d.Size("c"); n != 0 || e != api.ErrNone {
		t.Errorf("Size(c) is %d, %d", n, e)
	}
}

// P8.3: names are told in the order of their bytes, in whatever order they came, each with its own bytes.
func TestNamesRise(t *testing.T) {
	rising := []string{"\x00", "\x00\xff", "\x01", "A", "Z", "a", "a\x00", "a ", "aa", "ab", "b", "seg-1", "seg-10", "seg-2", "z", "\x7f", "\x80", "\xc3\xa9", "\xff", "\xff\x00"}
	n := numbers(7)
	for range 20 {
		l := slices.Clone(rising)
		for i := range l {
			j := i + n.below(len(l)-i)
			l[i], l[j] = l[j], l[i]
		}
		b := start(t, 1000)
		for i, name := range l {
			if i%3 == 0 {
				b.create("x")
				b.append("x", "of ", name)
				b.rename("x", name)
			} else {
				b.create(name)
				b.append(name, "of ", name)
			}
		}
		for i, f := range b.d.Files() {
			if f.Name != rising[i] || f.Bytes != "of "+rising[i] {
				t.Fatalf("%s: the file %d is %q, %q", b.told(), i, f.Name, f.Bytes)
			}
		}
		if l := b.d.List(); !slices.Equal(l, rising) {
			t.Fatalf("%s: List is %q", b.told(), l)
		}
	}
}

// P8.3: what is used, of names that are there alone.
func TestUsed(t *testing.T) {
	b := start(t, 6)
	for i, x := range []struct {
		call func()
		used int
	}{
		{func() { b.d.Create("a") }, 0},
		{func() { b.d.Append("a", "1", "23") }, 3},
		{func() { b.d.Append("a") }, 3},
		{func() { b.d.Append("b", "4") }, 3},
		{func() { b.d.Create("b") }, 3},
		{func() { b.d.Append("b", "4567") }, 6},
		{func() { b.d.Append("b", "8") }, 6},
		{func() { b.d.Sync("a") }, 6},
		{func() { b.d.Truncate("b", 2) }, 5},
		{func() { b.d.Truncate("b", 2) }, 5},
		{func() { b.d.Truncate("b", 3) }, 5},
		{func() { b.d.Rename("a", "a") }, 5},
		{func() { b.d.Rename("c", "a") }, 5},
		{func() { b.d.Rename("a", "") }, 5},
		{func() { b.d.Rename("b", "a") }, 2},
		{func() { b.d.Append("a", "x") }, 3},
		{func() { b.d.SyncDir() }, 3},
		{func() { b.d.Create("b") }, 3},
		{func() { b.d.Rename("a", "c") }, 3},
		{func() { b.d.Remove("b") }, 3},
		{func() { b.d.Remove("b") }, 3},
		{func() { b.d.Remove("c") }, 0},
		{func() { b.d.Copy().Create("d") }, 0},
		{func() { b.d.Restart([]uint16{0, 3}) }, 3},
		{func() { b.d.Sync("a") }, 3},
		{func() { b.d.Append("a", "yz") }, 5},
		{func() { b.d.Restart([]uint16{0, 0, 1}) }, 4},
		{func() { b.d.Arm(1) }, 4},
		{func() { b.d.Remove("a") }, 0},
		{func() { b.d.Restart(nil) }, 4},
	} {
		x.call()
		if n := b.d.Used(); n != x.used {
			t.Errorf("behind call %d %d bytes are used, not %d", i, n, x.used)
		}
	}
}

// P8.3: each step is counted, whatever it answers, also on a disk that is down; nothing else is.
func TestSteps(t *testing.T) {
	names := []string{"a", "c", "", long(65)}
	for _, down := range []bool{false, true} {
		for _, a := range names {
			for _, b := range names {
				for _, n := range []int{-1, 0, 99} {
					for call := range steps(nil, a, b, n) {
						d := disk.Of(files("a", "xy", "b", "z"), 3)
						if down {
							d.Arm(1)
							d.SyncDir()
						}
						was := d.Steps()
						steps(d, a, b, n)[call]()
						if got := d.Steps(); got != was+1 {
							t.Errorf("%s(%s, %s, %d), down %t: %d steps behind %d", call, short(a), short(b), n, down, got, was)
						}
					}
				}
			}
		}
	}
	d := disk.New(5)
	d.Create("a")
	d.Append("a", "x")
	d.Create("a")
	d.Append("a", "too much")
	d.ReadAt("a", 0, 9)
	d.ReadAt("b", 0, 9)
	d.Size("a")
	d.List()
	d.Files()
	d.Used()
	d.Quota()
	d.Down()
	d.Arm(7)
	d.Arm(0)
	d.Copy().Sync("a")
	d.Restart(nil)
	d.Restart([]uint16{1})
	if n := d.Steps(); n != 4 {
		t.Errorf("%d steps, not 4", n)
	}
	if n := d.Copy().Steps(); n != 4 {
		t.Errorf("%d steps of the copy, not 4", n)
	}
}

// P8.4: armed for n it stops at the n-th step from then on, whichever that is; the step is not done.
func TestArm(t *testing.T) {
	for n := 1; n <= 12; n++ {
		for name := range steps(nil, "", "", 0) {
			b := of(t, 3, "a", "xy", "b", "z")
			b.arm(n)
			for range n - 1 {
				b.sync("none")
				if b.d.Down() {
					t.Fatalf("%s: it is down", b.told())
				}
			}
			was := b.d.Steps()
			want(t, name+", the one at which it stops", steps(b.d, "a", "c", 1)[name](), api.ErrCrash)
			if !b.d.Down() || b.d.Steps() != was+1 || len(b.d.Files()) != 0 || b.d.Used() != 0 {
				t.Errorf("%s, armed for %d: %t, %d steps, %s", name, n, b.d.Down(), b.d.Steps(), told(b.d.Files()))
			}
			b.d.Restart([]uint16{9, 9, 9, 9, 9})
			b.w.steps++
			b.alike()
			b.is("a", "xy", "b", "z")
		}
	}
}

// P8.4: below 1 it is not armed; what it was armed for counts no more when it is armed anew.
func TestArmAnew(t *testing.T) {
	upFor := func(d *disk.Disk, many int) {
		t.Helper()
		for i := range many {
			if e := d.SyncDir(); e != api.OK {
				t.Fatalf("the step %d of %d is %d", i+1, many, e)
			}
		}
	}
	stops := func(d *disk.Disk) {
		t.Helper()
		want(t, "the step at which it stops", d.SyncDir(), api.ErrCrash)
	}
	for _, n := range []int{0, -1, -2, -300, math.MinInt} {
		d := disk.New(5)
		d.Arm(n)
		upFor(d, 400)
		d.Arm(1)
		d.Arm(n)
		upFor(d, 400)
		d.Arm(3)
		upFor(d, 2)
		d.Arm(n)
		upFor(d, 10)
		d.Arm(1)
		stops(d)
		d.Arm(n)
		if !d.Down() || d.SyncDir() != api.ErrCrash {
			t.Errorf("a disk that is down is up behind Arm(%d)", n)
		}
	}
	for _, n := range []int{1, 2, 3, 10} {
		d := disk.New(5)
		d.Arm(5)
		upFor(d, 4)
		d.Arm(n)
		upFor(d, n-1)
		stops(d)
		d.Arm(7)
		stops(d)
		if !d.Down() {
			t.Error("a disk that is down is up behind Arm(7)")
		}
		d.Restart(nil)
		upFor(d, 20)
	}
	for _, n := range []int{math.MaxInt, math.MaxInt - 1, 1 << 32, 1 << 31, 401} {
		d := disk.New(5)
		d.Arm(n)
		upFor(d, 400)
	}
	// A restart takes what it was armed for, also of a disk that was up.
	d := disk.New(5)
	d.Arm(2)
	d.Restart(nil)
	upFor(d, 10)
	d.Arm(3)
	upFor(d, 2)
	d.Restart([]uint16{1})
	upFor(d, 10)
}

// P8.2 to P8.4: each call of a disk that is down, whatever it is called with.
func TestDown(t *testing.T) {
	made := of(t, 5, "a", "xy", "b", "z")
	made.append("a", "u")
	made.create("c")
	made.arm(2)
	made.remove("a")
	made.remove("b")
	names := []string{"a", "b", "c", "d", "", long(65)}
	for _, x := range names {
		for _, y := range names {
			for _, n := range edges(3) {
				b := made.copied()
				for name, step := range steps(b.d, x, y, n) {
					want(t, name+" of a disk that is down", step(), api.ErrCrash)
					b.w.steps++
				}
				if s, e := b.d.ReadAt(x, n, n); s != "" || e != api.ErrCrash {
					t.Errorf("ReadAt of a disk that is down: %q, %d", s, e)
				}
				if n, e := b.d.Size(x); n != 0 || e != api.ErrCrash {
					t.Errorf("Size of a disk that is down: %d, %d", n, e)
				}
				b.alike()
				if len(b.d.List()) != 0 || len(b.d.Files()) != 0 || b.d.Used() != 0 || !b.d.Down() || b.d.Quota() != 5 {
					t.Errorf("a disk that is down: %q, %d, %t, %d", b.d.List(), b.d.Used(), b.d.Down(), b.d.Quota())
				}
				// Nothing of all that was done.
				c := b.copied()
				c.restart()
				c.is("a", "xy", "b", "z")
				b.restart(1, 1)
				b.is("a", "xyu", "b", "z", "c", "")
			}
		}
	}
	made.restart(9)
	made.is("b", "z", "c", "")
}

// P8.4: of numbers the first one tells how many acts of the folder survive, and the others by twos what stays of the files, by rising names; behind their end they are 0.
func TestRestart(t *testing.T) {
	b := of(t, 40, "c", "3", "a", "1")
	b.create("b")
	for _, name := range []string{"c", "b", "a"} {
		b.append(name, "x", "y")
		b.truncate(name, 1)
		b.append(name, "uvw")
	}
	for _, x := range []struct {
		numbers []uint16
		files   []string
	}{
		{nil, []string{"a", "1", "c", "3"}},
		{[]uint16{}, []string{"a", "1", "c", "3"}},
		{[]uint16{0, 0, 0, 0, 0, 0, 0}, []string{"a", "1", "c", "3"}},
		{[]uint16{0, 1}, []string{"a", "1xy", "c", "3"}},
		{[]uint16{0, 0, 1}, []string{"a", "1x", "c", "3"}},
		{[]uint16{0, 0, 0, 1}, []string{"a", "1", "c", "3xy"}},
		{[]uint16{0, 0, 0, 0, 1}, []string{"a", "1", "c", "3x"}},
		{[]uint16{0, 2, 2, 0, 9}, []string{"a", "1uv", "c", "3xy"}},
		{[]uint16{0, 3, 0, 3, 0, 1, 1, 1, 1}, []string{"a", "1uvw", "c", "3uvw"}},
		{[]uint16{1}, []string{"a", "1", "b", "", "c", "3"}},
		{[]uint16{1, 0, 0, 2, 1, 1}, []string{"a", "1", "b", "xu", "c", "3xy"}},
		{[]uint16{1, 0, 0, 0, 1, 0, 1}, []string{"a", "1", "b", "x", "c", "3x"}},
		{[]uint16{1, 1, 5, 9}, []string{"a", "1xy", "b", "xuvw", "c", "3"}},
		{[]uint16{2, 9, 9, 9, 9, 9, 9}, []string{"a", "1uvw", "b", "xuvw", "c", "3uvw"}},
		{[]uint16{65535, 65535, 65535, 65535, 65535, 65535, 65535}, []string{"a", "1uvw", "b", "xuvw", "c", "3uvw"}},
		{[]uint16{32768, 32768, 32768, 65534, 0, 3, 0, 99, 99, 99, 99, 99}, []string{"a", "1uvw", "b", "xuvw", "c", "3uvw"}},
		{[]uint16{256, 256, 0, 0, 256, 0, 256}, []string{"a", "1uvw", "b", "xy", "c", "3xy"}},
	} {
		c := b.copied()
		c.restart(x.numbers...)
		c.is(x.files...)
		// What stays is durable then, names and all.
		d := c.copied()
		d.restart()
		d.is(x.files...)
		c.restart(9, 9, 9, 9, 9, 9, 9)
		c.is(x.files...)
	}
}

// P8.4: a restart of what is up, or down, or armed: it is up behind it, and not armed; and it counts no step.
func TestRestartAnyTime(t *testing.T) {
	for name, ahead := range map[string]func(b *both){
		"up":        func(b *both) {},
		"armed":     func(b *both) { b.arm(2) },
		"down":      func(b *both) { b.arm(1); b.syncDir() },
		"restarted": func(b *both) { b.restart(0, 1) },
		"armed anew": func(b *both) {
			b.arm(1)
			b.syncDir()
			b.arm(1)
		},
	} {
		b := of(t, 9, "a", "x")
		b.append("a", "y")
		ahead(b)
		was := b.d.Steps()
		b.restart(0, 1)
		b.is("a", "xy")
		if b.d.Down() || b.d.Steps() != was {
			t.Errorf("%s: down %t, %d steps, not %d", name, b.d.Down(), b.d.Steps(), was)
		}
		for range 4 {
			b.syncDir()
			b.create("b")
			b.remove("b")
		}
		if b.d.Down() {
			t.Errorf("%s: it stopped", name)
		}
		b.append("a", "z")
		b.restart()
		b.is("a", "xy")
	}
}

// P8.4: what had no name any more at a restart, and has none behind it, is gone for good, and its bytes are in no new file.
func TestGoneForGood(t *testing.T) {
	b := start(t, 30)
	b.create("a")
	b.append("a", "first")
	b.sync("a")
	b.restart()
	b.is()
	b.create("a")
	b.is("a", "")
	b.append("a", "x")
	b.sync("a")
	b.restart(1)
	b.is("a", "x")
	b.remove("a")
	b.restart(1)
	b.is()
	b.restart()
	b.is()
	b.create("a")
	b.syncDir()
	b.remove("a")
	b.create("a")
	b.append("a", "second")
	b.sync("a")
	c := b.copied()
	c.restart(0)
	c.is("a", "")
	c = b.copied()
	c.restart(1)
	c.is()
	b.restart(2)
	b.is("a", "second")
}

// changes are rows of calls of all kinds.
func changes() map[string]func(b *both) {
	return map[string]func(b *both){
		"nothing":   func(b *both) {},
		"appends":   func(b *both) { b.append("a", "123"); b.append("b", "4", "5"); b.append("a", "6") },
		"cuts":      func(b *both) { b.append("a", "12"); b.truncate("a", 1); b.truncate("b", 0); b.append("b", "3") },
		"syncs":     func(b *both) { b.append("a", "12"); b.sync("a"); b.append("a", "3"); b.syncDir() },
		"creates":   func(b *both) { b.create("c"); b.append("c", "12"); b.create("d") },
		"removes":   func(b *both) { b.append("a", "1"); b.remove("a"); b.create("a"); b.append("a", "2") },
		"over":      func(b *both) { b.append("b", "1"); b.rename("b", "a"); b.append("a", "2"); b.rename("a", "a") },
		"names":     func(b *both) { b.rename("a", "c"); b.syncDir(); b.rename("c", "b") },
		"a restart": func(b *both) { b.append("a", "123"); b.create("d"); b.restart(1, 0, 2) },
		"armed":     func(b *both) { b.append("a", "1"); b.arm(2); b.create("c") },
		"down":      func(b *both) { b.append("a", "1"); b.remove("b"); b.arm(1); b.create("c") },
		"full":      func(b *both) { b.append("a", long(99)); b.append("b", "x") },
	}
}

// P8.4: a copy is alike, also one that is armed, or down, and what is done to one of the two changes nothing of the other, whichever it is.
func TestCopy(t *testing.T) {
	for name, row := range changes() {
		for _, one := range changes() {
			for _, other := range changes() {
				b := of(t, 12, "a", "x", "b", "yz")
				row(b)
				c := b.copied()
				c.alike()
				one(c)
				b.alike()
				other(b)
				c.alike()
				// What stays is made of the acts, so that one that was changed in the other is seen there.
				for _, x := range []*both{b, c} {
					for _, l := range [][]uint16{nil, {0, 1, 0, 1}, {1, 0, 1, 0, 1}, {9, 9, 9, 9, 9, 9, 9}} {
						x.copied().restart(l...)
					}
					x.alike()
				}
			}
		}
		if t.Failed() {
			t.Fatal(name)
		}
	}
}

// P8.4: copies of one disk, and copies of copies, all of which go on by themselves, in whatever order.
func TestManyCopies(t *testing.T) {
	for many := range 8 {
		b := of(t, 99, "a", "x")
		for i := range many {
			b.append("a", strconv.Itoa(i))
			b.create("n" + strconv.Itoa(i))
		}
		l := []*both{b, b.copied(), b.copied()}
		l = append(l, l[1].copied())
		for i, x := range l {
			x.append("a", "own"+strconv.Itoa(i))
			x.create("own" + strconv.Itoa(i))
		}
		l = append(l, l[0].copied(), l[2].copied())
		for i, x := range l {
			x.remove("own" + strconv.Itoa(i))
			x.append("a", "last"+strconv.Itoa(i))
			x.create("last" + strconv.Itoa(i))
			for _, y := range l {
				y.alike()
			}
		}
		for _, x := range l {
			for n := range many + 4 {
				x.copied().restart(uint16(n), uint16(n), 2)
			}
			x.restart(uint16(many+1), uint16(many), 3)
			x.create("end")
			x.syncDir()
		}
		for _, x := range l {
			x.alike()
		}
	}
}

// P8.4: what loses its name on one of two disks keeps it on the other, however many names were lost ahead of the copy.
func TestCopiesLoseNamesByThemselves(t *testing.T) {
	for many := range 10 {
		b := start(t, 99)
		for i := range many + 3 {
			b.create("n" + strconv.Itoa(i))
			b.append("n"+strconv.Itoa(i), "of", strconv.Itoa(i))
		}
		for i := range many {
			b.remove("n" + strconv.Itoa(i))
		}
		c := b.copied()
		b.remove("n" + strconv.Itoa(many))
		c.remove("n" + strconv.Itoa(many+1))
		b.rename("n"+strconv.Itoa(many+1), "n"+strconv.Itoa(many+2))
		for _, x := range []*both{b, c} {
			x.syncDir()
			x.append("n"+strconv.Itoa(many+2), "!")
			x.restart(0, 9)
		}
		b.is("n"+strconv.Itoa(many+2), "of"+strconv.Itoa(many+1)+"!")
	}
}

// P8.4: an armed copy stops at its own steps, and an armed disk at its own, however many the other one does.
func TestCopiesAreArmedByThemselves(t *testing.T) {
	d := disk.Of(files("a", "xy"), 9)
	d.Arm(3)
	d.SyncDir()
	c := d.Copy()
	want(t, "the copy's first step", c.SyncDir(), api.OK)
	want(t, "the copy's second step", c.SyncDir(), api.ErrCrash)
	if d.Down() || !c.Down() || d.Steps() != 1 || c.Steps() != 3 {
		t.Errorf("down %t, %t, steps %d, %d", d.Down(), c.Down(), d.Steps(), c.Steps())
	}
	want(t, "the second step", d.SyncDir(), api.OK)
	want(t, "the third step", d.SyncDir(), api.ErrCrash)
	e := d.Copy()
	if !e.Down() || len(e.List()) != 0 {
		t.Error("the copy of a disk that is down is up")
	}
	e.Restart(nil)
	if e.Down() || !d.Down() || !slices.Equal(e.Files(), files("a", "xy")) {
		t.Errorf("down %t, %t, %s", e.Down(), d.Down(), told(e.Files()))
	}
	e.Arm(1)
	d.Restart(nil)
	want(t, "a step of a disk whose copy is armed", d.SyncDir(), api.OK)
	want(t, "a step of the armed copy", e.SyncDir(), api.ErrCrash)
	if n := d.Copy().Quota(); n != 9 {
		t.Errorf("the copy's quota is %d", n)
	}
}

// P8.1 to P8.5: all short rows of calls are what the words say, and so is what stays of them.
func TestShortRows(t *testing.T) {
	calls := []func(b *both){
		func(b *both) { b.create("a") },
		func(b *both) { b.append("a", "x", "yz") },
		func(b *both) { b.append("b", "uv") },
		func(b *both) { b.truncate("a", 1) },
		func(b *both) { b.sync("a") },
		func(b *both) { b.syncDir() },
		func(b *both) { b.rename("a", "b") },
		func(b *both) { b.rename("b", "a") },
		func(b *both) { b.remove("a") },
		func(b *both) { b.arm(2) },
		func(b *both) { b.restart(1, 0, 1) },
	}
	var from func(b *both, many int)
	from = func(b *both, many int) {
		for _, l := range [][]uint16{nil, {0, 1}, {1, 0, 2, 1}, {9, 9, 9, 9, 9}} {
			b.copied().restart(l...)
		}
		if many == 0 || t.Failed() {
			return
		}
		for _, call := range calls {
			next := b.copied()
			call(next)
			from(next, many-1)
		}
	}
	from(start(t, 4), 3)
	from(of(t, 4, "a", "1", "b", "2"), 3)
}

// P8.1 to P8.5: long rows of any calls, and copies that go on by themselves, are what the words say.
func TestLongRows(t *testing.T) {
	n := numbers(2)
	for range 150 {
		l := []*both{start(t, n.below(60))}
		if n.below(2) == 0 {
			l[0] = of(t, n.below(20), "a", n.bytes(n.below(9)), "c", n.bytes(n.below(9)))
		}
		for range 150 {
			i := n.below(len(l))
			if n.below(20) == 0 {
				c := l[i].copied()
				if len(l) < 3 {
					l = append(l, c)
				} else {
					l[n.below(len(l))] = c
				}
			}
			n.any(l[i])
			for _, b := range l {
				b.alike()
			}
		}
	}
}

// kept is what P8.5 says of a name that was synced: the bytes that were synced, if it was not truncated since.
type kept struct {
	bytes string
	cut   bool
}

// follow does one step by chance, and tells what of the names that were synced is to be kept.
func follow(n *numbers, d *disk.Disk, synced map[string]string, names map[string]kept) {
	name := n.name()
	switch n.below(12) {
	case 0, 1, 2:
		d.Create(name)
	case 3, 4, 5:
		d.Append(name, n.bytes(n.below(5)), n.bytes(n.below(5)))
	case 6:
		if size, e := d.Size(name); e == api.OK {
			d.Truncate(name, n.below(size+1))
			if k, is := names[name]; is {
				names[name] = kept{k.bytes, true}
			}
			delete(synced, name)
		}
	case 7, 8:
		if d.Sync(name) == api.OK {
			size, _ := d.Size(name)
			synced[name], _ = d.ReadAt(name, 0, size)
			if _, is := names[name]; is {
				names[name] = kept{bytes: synced[name]}
			}
		}
	case 9:
		d.SyncDir()
		clear(names)
		for _, x := range d.List() {
			s, is := synced[x]
			names[x] = kept{bytes: s, cut: !is}
		}
	case 10:
		other := n.name()
		if d.Rename(name, other) == api.OK {
			for _, x := range []string{name, other} {
				delete(synced, x)
				delete(names, x)
			}
		}
	default:
		if d.Remove(name) == api.OK {
			delete(synced, name)
			delete(names, name)
		}
	}
}

// P8.5: what was synced, names and bytes, is there behind any restart; all is, if the numbers are great enough.
func TestWhatWasSyncedIsThere(t *testing.T) {
	n := numbers(3)
	for range 250 {
		d := disk.New(200)
		synced, names := map[string]string{}, map[string]kept{}
		for range 40 {
			follow(&n, d, synced, names)
			for range 3 {
				c, l := d.Copy(), n.row()
				c.Restart(l)
				for name, k := range names {
					size, e := c.Size(name)
					s, _ := c.ReadAt(name, 0, size)
					if e != api.OK || !k.cut && !strings.HasPrefix(s, k.bytes) {
						t.Fatalf("behind a restart by %d %s is %q, %d, though %q was synced", l, name, s, e, k.bytes)
					}
				}
			}
			all := d.Copy()
			all.Restart(slices.Repeat([]uint16{65535}, 50))
			if !slices.Equal(all.Files(), d.Files()) || all.Used() != d.Used() {
				t.Fatalf("behind a restart with all there are %s, not %s", told(all.Files()), told(d.Files()))
			}
		}
	}
}

// P8.5: no append takes more than there is room, whatever is done.
func TestRoomIsNotExceeded(t *testing.T) {
	n := numbers(4)
	for range 200 {
		b := of(t, n.below(20), "a", n.bytes(n.below(15)), "b", n.bytes(n.below(15)))
		for range 60 {
			name, s := n.name(), n.bytes(n.below(9))
			used, size := b.d.Used(), first(b.d.Size(name))
			e := b.d.Append(name, s)
			grown := first(b.d.Size(name)) - size
			if grown > max(b.d.Quota()-used, 0) || b.d.Used() != used+grown {
				t.Fatalf("of a quota of %d and %d that were used %d were appended, and %d are used", b.d.Quota(), used, grown, b.d.Used())
			}
			if e == api.OK && grown != len(s) || e != api.OK && e != api.ErrFull && grown != 0 || e == api.ErrFull && grown >= len(s) {
				t.Fatalf("of %d bytes %d were appended: %d", len(s), grown, e)
			}
			b.w.append(name, s)
			n.step(b)
		}
	}
}

func first(n int, _ api.Errno) int { return n }

// P8.4, P1: each call of a disk that is none, whatever else is wrong.
func TestNoDisk(t *testing.T) {
	var d *disk.Disk
	for _, a := range asked {
		for _, b := range asked {
			for _, n := range edges(0) {
				for name, step := range steps(d, a, b, n) {
					want(t, name+" of no disk", step(), api.ErrNil)
				}
				if s, e := d.ReadAt(a, n, n); s != "" || e != api.ErrNil {
					t.Errorf("ReadAt of no disk is %q, %d", s, e)
				}
				if n, e := d.Size(a); n != 0 || e != api.ErrNil {
					t.Errorf("Size of no disk is %d, %d", n, e)
				}
				d.Arm(n)
			}
		}
	}
	d.Restart(nil)
	d.Restart([]uint16{1, 2, 3})
	if len(d.List()) != 0 || len(d.Files()) != 0 || d.Used() != 0 || d.Quota() != 0 || d.Steps() != 0 || !d.Down() || d.Copy() != nil {
		t.Errorf("no disk is %q, %d, %d, %d, %t", d.List(), d.Used(), d.Quota(), d.Steps(), d.Down())
	}
}

// P1: a disk that nobody made has nothing, and a quota of 0.
func TestZeroDisk(t *testing.T) {
	zero := func() *both {
		b := start(t, 0)
		b.d, b.calls = &disk.Disk{}, "Disk{}"
		return b
	}
	zero().alike()
	for _, row := range changes() {
		b := zero()
		b.copied().create("a")
		b.create("a")
		b.create("b")
		row(b)
		b.restart(2, 1, 1)
	}
	b := zero()
	b.restart(9, 9)
	b.syncDir()
	b.arm(1)
	b.remove("a")
	b.restart()
	b.is()
}

// What was answered is the caller's, who may change it; and it stays as it was, whatever is done behind it.
func TestAnswersAreTheCallers(t *testing.T) {
	b := of(t, 20, "a", "1", "b", "23", "c", "")
	b.append("c", "456")
	names, others := b.d.List(), b.d.List()
	list, more := b.d.Files(), b.d.Files()
	names[0], names[2] = "z", ""
	names = append(names[:1], "y")
	list[0].Name, list[1].Bytes, list[2] = "z", "", api.File{}
	list = append(list[:1], api.File{Name: "y"})
	b.alike()
	s, _ := b.d.ReadAt("c", 1, 2)
	b.truncate("c", 0)
	b.append("c", "xyz")
	b.rename("b", "d")
	b.remove("a")
	b.restart(1)
	if !slices.Equal(others, []string{"a", "b", "c"}) || !slices.Equal(more, files("a", "1", "b", "23", "c", "456")) || s != "56" {
		t.Errorf("what was answered is %q, %s, %q now", others, told(more), s)
	}
	if !slices.Equal(names, []string{"z", "y"}) || !slices.Equal(list, files("z", "1", "y", "")) {
		t.Errorf("what was answered, and changed, is %q, %s now", names, told(list))
	}
}

// What is handed in is not changed, and may be changed by its owner behind the call.
func TestWhatIsHandedIn(t *testing.T) {
	list := files("b", "23", "a", "1")
	d := disk.Of(list, 20)
	if !slices.Equal(list, files("b", "23", "a", "1")) {
		t.Errorf("the files are %s now", told(list))
	}
	list[0], list[1].Bytes = api.File{Name: "z", Bytes: "z"}, "changed"
	texts := []string{"x", "y"}
	d.Append("a", texts...)
	if !slices.Equal(texts, []string{"x", "y"}) {
		t.Errorf("the texts are %q now", texts)
	}
	texts[0], texts[1] = "changed", ""
	if l := d.Files(); !slices.Equal(l, files("a", "1xy", "b", "23")) {
		t.Errorf("the files are %s", told(l))
	}
	numbers := []uint16{0, 0, 1, 7}
	c := d.Copy()
	c.Restart(numbers[:3])
	if !slices.Equal(numbers, []uint16{0, 0, 1, 7}) {
		t.Errorf("the numbers are %d now", numbers)
	}
	numbers[0], numbers[1] = 9, 9
	if l := c.Files(); !slices.Equal(l, files("a", "1x", "b", "23")) {
		t.Errorf("the files are %s", told(l))
	}
	if d.Restart(numbers); !slices.Equal(d.Files(), files("a", "1xy", "b", "23")) {
		t.Errorf("the files are %s", told(d.Files()))
	}
}

// A disk has the chapter's calls alone: what of the folder's no step hides is not to be had of it, for it would go past the steps.
func TestFolderIsHidden(t *testing.T) {
	var d any = disk.New(0)
	_, finds := d.(interface{ Find(string) (int, bool) })
	_, names := d.(interface{ Names() []string })
	_, pending := d.(interface{ Pending() int })
	_, survives := d.(interface{ Survive(int) })
	if finds || names || pending || survives {
		t.Error("a disk has a method of its folder")
	}
}

// Long rows of steps, on many files, end soon enough.
func TestMany(t *testing.T) {
	const many = 20000
	for _, synced := range []bool{false, true} {
		d := disk.New(math.MaxInt)
		for i := range many {
			name := "n" + strconv.Itoa(i)
			d.Create(name)
			d.Append(name, "x", "y")
			d.Append("n0", "z")
			d.Truncate(name, 1)
			if i%3 == 1 {
				d.Rename(name, "n"+strconv.Itoa(i-1))
			}
			if i%3 == 2 {
				d.Remove(name)
			}
			if synced {
				d.Sync(name)
				d.SyncDir()
			}
			if _, e := d.Size("n0"); e != api.OK {
				t.Fatal(e)
			}
		}
		d.Arm(1)
		d.SyncDir()
		d.Restart(slices.Repeat([]uint16{65535}, 2*many+1))
		// Of three files one is left, with a byte; what was appended to n0 ahead of the rename over it is gone with it.
		if n := len(d.List()); n != many/3+1 || d.Used() != n+many-2 {
			t.Errorf("there are %d files, and %d bytes", n, d.Used())
		}
	}
}

// What can't be there again is forgotten, so that a disk on which files come and go does not grow.
func TestForgets(t *testing.T) {
	held := func() uint64 {
		runtime.GC()
		var m runtime.MemStats
		runtime.ReadMemStats(&m)
		return m.HeapAlloc
	}
	const size = 1 << 20
	for name, leave := range map[string]func(d *disk.Disk){
		"removed":      func(d *disk.Disk) { d.Remove("a"); d.SyncDir() },
		"written over": func(d *disk.Disk) { d.Create("b"); d.Rename("b", "a"); d.SyncDir(); d.Remove("a") },
		"restarted":    func(d *disk.Disk) { d.SyncDir(); d.Remove("a"); d.Restart([]uint16{1}) },
		"not synced":   func(d *disk.Disk) { d.Restart(nil) },
	} {
		d, was := disk.New(size), held()
		for range 40 {
			want(t, "Create", d.Create("a"), api.OK)
			want(t, "Append", d.Append("a", long(size)), api.OK)
			leave(d)
		}
		if now := held(); now > was+10*size {
			t.Errorf("%s: %d bytes are held, ahead of it %d", name, now, was)
		}
		runtime.KeepAlive(d)
	}
}
