package folder_test

import (
	"maps"
	"math"
	"slices"
	"strconv"
	"strings"
	"testing"

	"cedilla/api"
	"cedilla/folder"
)

// words is a folder as the chapter's words tell it: what lasts, what was there behind each act since then, and all numbers that it ever had.
type words struct {
	was   []map[string]int
	given []int
}

func (w words) there() map[string]int { return w.was[len(w.was)-1] }

// next is what is there, to be changed, as what will be there behind one more act.
func (w *words) next() map[string]int {
	m := maps.Clone(w.there())
	w.was = append(slices.Clone(w.was), m)
	return m
}

func (w *words) create(name string) (int, api.Errno) {
	if len(name) < 1 || len(name) > 64 {
		return 0, api.ErrArg
	}
	if w.there()[name] != 0 {
		return 0, api.ErrTwice
	}
	n := 1
	if len(w.given) > 0 {
		n = slices.Max(w.given) + 1
	}
	w.given = append(slices.Clone(w.given), n)
	w.next()[name] = n
	return n, api.OK
}

func (w *words) rename(a, b string) api.Errno {
	if len(b) < 1 || len(b) > 64 {
		return api.ErrArg
	}
	n := w.there()[a]
	if n == 0 {
		return api.ErrNone
	}
	m := w.next()
	if a != b {
		m[b] = n
		delete(m, a)
	}
	return api.OK
}

func (w *words) remove(name string) api.Errno {
	if w.there()[name] == 0 {
		return api.ErrNone
	}
	delete(w.next(), name)
	return api.OK
}

func (w *words) survive(n int) {
	switch {
	case n < 0:
		n = 0
	case n >= len(w.was):
		n = len(w.was) - 1
	}
	w.was = w.was[n : n+1]
}

// both is a folder, the same by the words, and what was called of it.
type both struct {
	t     *testing.T
	f     *folder.Folder
	w     words
	calls string
}

func start(t *testing.T) *both {
	return &both{t: t, f: folder.New(), w: words{was: []map[string]int{{}}}, calls: "New()"}
}

// copied is a copy of both.
func (b *both) copied() *both {
	return &both{t: b.t, f: b.f.Copy(), w: b.w, calls: b.calls + " Copy()"}
}

// answered finds out whether a call answered what the words say, and whether the folder is behind it what they say.
func (b *both) answered(call string, got, want api.Errno) {
	b.t.Helper()
	b.calls += " " + call
	if got != want {
		b.t.Fatalf("%s: %d, not %d", b.told(), got, want)
	}
	b.alike()
}

func (b *both) create(name string) {
	b.t.Helper()
	n, e := b.f.Create(name)
	want, why := b.w.create(name)
	b.answered("Create("+short(name)+")", e, why)
	if n != want {
		b.t.Fatalf("%s: the number is %d, not %d", b.told(), n, want)
	}
}

func (b *both) rename(x, y string) {
	b.t.Helper()
	b.answered("Rename("+short(x)+", "+short(y)+")", b.f.Rename(x, y), b.w.rename(x, y))
}

func (b *both) remove(name string) {
	b.t.Helper()
	b.answered("Remove("+short(name)+")", b.f.Remove(name), b.w.remove(name))
}

func (b *both) sync() {
	b.t.Helper()
	b.f.Sync()
	b.w.survive(len(b.w.was))
	b.answered("Sync()", api.OK, api.OK)
}

func (b *both) survive(n int) {
	b.t.Helper()
	b.f.Survive(n)
	b.w.survive(n)
	b.answered("Survive("+strconv.Itoa(n)+")", api.OK, api.OK)
}

// asked is names that are asked for, whether they are there or not.
var asked = []string{"", "a", "b", "c", "d", "ab", "a\x00", "A", "\x00", "\xff", "manifest", long(64), long(65)}

// alike finds out whether the folder is what the words say.
func (b *both) alike() {
	b.t.Helper()
	there := b.w.there()
	names := slices.Sorted(maps.Keys(there))
	if l := b.f.Names(); !slices.Equal(l, names) {
		b.t.Fatalf("%s: Names are %q, not %q", b.told(), l, names)
	}
	for name, n := range there {
		b.finds(name, n)
	}
	for _, name := range asked {
		b.finds(name, there[name])
	}
	if n := b.f.Pending(); n != len(b.w.was)-1 {
		b.t.Fatalf("%s: Pending is %d, not %d", b.told(), n, len(b.w.was)-1)
	}
}

// finds finds out whether a name has a number, or is not there, if that is 0.
func (b *both) finds(name string, n int) {
	b.t.Helper()
	if got, is := b.f.Find(name); got != n || is != (n != 0) {
		b.t.Fatalf("%s: Find(%s) is %d, %t, not %d", b.told(), short(name), got, is, n)
	}
}

// is finds out whether the folder has so many acts, and just these names, each told as name:number, in that order.
func (b *both) is(acts int, names ...string) {
	b.t.Helper()
	var l []string
	for _, name := range b.f.Names() {
		n, is := b.f.Find(name)
		if !is {
			b.t.Fatalf("%s: %q is told, and not found", b.told(), name)
		}
		l = append(l, name+":"+strconv.Itoa(n))
	}
	if !slices.Equal(l, names) || b.f.Pending() != acts {
		b.t.Fatalf("%s: %q, and %d acts, not %q, and %d", b.told(), l, b.f.Pending(), names, acts)
	}
}

// told is the calls, of many the last ones.
func (b *both) told() string {
	if len(b.calls) > 500 {
		return ".." + b.calls[len(b.calls)-500:]
	}
	return b.calls
}

// short is a text, of a long one its beginning and its size.
func short(s string) string {
	if len(s) > 12 {
		return strconv.QuoteToASCII(s[:12]) + ".. of " + strconv.Itoa(len(s))
	}
	return strconv.QuoteToASCII(s)
}

// long is a text of so many bytes.
func long(size int) string { return strings.Repeat("n", size) }

// numbers makes the same row of numbers in each run.
type numbers uint64

func (n *numbers) below(most int) int {
	*n = *n*6364136223846793005 + 1442695040888963407
	return int(*n>>33) % most
}

// name is one of a few names, so that they meet, now and then one that may be none.
func (n *numbers) name() string {
	if n.below(12) == 0 {
		return []string{"", long(65), long(64), long(1000)}[n.below(4)]
	}
	return asked[1+n.below(8)]
}

// any calls any one of the calls that change the folder.
func (n *numbers) any(b *both) {
	b.t.Helper()
	switch n.below(12) {
	case 0, 1, 2, 3:
		b.create(n.name())
	case 4, 5, 6:
		b.rename(n.name(), n.name())
	case 7, 8:
		b.remove(n.name())
	case 9:
		b.sync()
	case 10:
		b.survive(n.below(b.f.Pending()+3) - 1)
	default:
		x := n.name()
		b.rename(x, x)
	}
}

// edges are numbers at which a Survive may go wrong, about the most that there is.
func edges(most int) []int {
	return []int{math.MinInt, math.MinInt + 1, -300, -2, -1, 0, 1, 2, most / 2, most - 1, most, most + 1, most + 2, most + 300, 1 << 31, 1 << 32, math.MaxInt - 1, math.MaxInt}
}

// rows tells rows of calls, each of a name, that lead to acts of all kinds.
func rows() map[string]func(b *both) {
	return map[string]func(b *both){
		"none":                 func(b *both) {},
		"a create":             func(b *both) { b.create("a") },
		"creates":              func(b *both) { b.create("b"); b.create("a"); b.create("c") },
		"a rename":             func(b *both) { b.create("a"); b.rename("a", "b") },
		"a rename over":        func(b *both) { b.create("a"); b.create("b"); b.rename("a", "b") },
		"a rename to itself":   func(b *both) { b.create("a"); b.rename("a", "a") },
		"a rename and back":    func(b *both) { b.create("a"); b.rename("a", "b"); b.rename("b", "a") },
		"a rename of a rename": func(b *both) { b.create("a"); b.create("c"); b.rename("a", "b"); b.rename("b", "c") },
		"a remove":             func(b *both) { b.create("a"); b.create("b"); b.remove("a") },
		"a create again":       func(b *both) { b.create("a"); b.remove("a"); b.create("a") },
		"a swap": func(b *both) {
			b.create("a")
			b.create("b")
			b.rename("a", "c")
			b.rename("b", "a")
			b.rename("c", "b")
		},
		"a sync": func(b *both) { b.create("a"); b.create("b"); b.sync() },
		"a sync, acts": func(b *both) {
			b.create("a")
			b.create("b")
			b.sync()
			b.rename("a", "b")
			b.create("a")
			b.remove("b")
		},
		"a sync, removes": func(b *both) { b.create("a"); b.create("b"); b.sync(); b.remove("a"); b.remove("b") },
		"a survive, acts": func(b *both) {
			b.create("a")
			b.create("b")
			b.survive(1)
			b.create("c")
			b.rename("c", "a")
			b.create("d")
		},
		"what is no act in between": func(b *both) {
			b.create("a")
			b.create("a")
			b.create("")
			b.rename("b", "c")
			b.rename("a", "")
			b.rename("a", "b")
			b.remove("a")
			b.create("d")
		},
		"as a manifest": func(b *both) {
			b.create("manifest")
			b.sync()
			b.create("ab")
			b.rename("ab", "manifest")
		},
	}
}

// P7.1 to P7.3: the examples of the chapter.
func TestExamples(t *testing.T) {
	b := start(t)
	if n, e := b.f.Create("a"); n != 1 || e != api.OK {
		t.Errorf("Create a: %d, %d", n, e)
	}
	if n, e := b.f.Create("b"); n != 2 || e != api.OK {
		t.Errorf("Create b: %d, %d", n, e)
	}
	if e := b.f.Rename("a", "c"); e != api.OK {
		t.Errorf("Rename a c: %d", e)
	}
	b.is(3, "b:2", "c:1")
	b.f.Survive(2)
	b.is(0, "a:1", "b:2")
	if n, e := b.f.Create("c"); n != 3 || e != api.OK {
		t.Errorf("Create c: %d, %d", n, e)
	}
	b.is(1, "a:1", "b:2", "c:3")
	b.f.Sync()
	if e := b.f.Remove("b"); e != api.OK {
		t.Errorf("Remove b: %d", e)
	}
	b.is(1, "a:1", "c:3")
	b.f.Survive(0)
	b.is(0, "a:1", "b:2", "c:3")
}

// P7.2: a new folder has no names, and no acts.
func TestNew(t *testing.T) {
	b := start(t)
	b.alike()
	b.is(0)
	if l := b.f.Names(); len(l) != 0 {
		t.Errorf("Names are %q", l)
	}
	for _, name := range asked {
		if n, is := b.f.Find(name); n != 0 || is {
			t.Errorf("Find(%s) is %d, %t", short(name), n, is)
		}
		b.remove(name)
		b.rename(name, "a")
		b.rename(name, name)
	}
	b.sync()
	b.survive(0)
	b.is(0)
	if one, other := folder.New(), folder.New(); one == other {
		t.Error("New answers one folder twice")
	}
}

// P7.1: names of all sizes, and of all bytes, to be made, and to be renamed to.
func TestWhatMayBeAName(t *testing.T) {
	for size := range 300 {
		name, want := long(size), api.OK
		if size == 0 || size > 64 {
			want = api.ErrArg
		}
		b := start(t)
		b.create(name)
		if want == api.OK {
			b.is(1, name+":1")
		} else {
			b.is(0)
		}
		b = start(t)
		b.create("a")
		if e := b.copied().f.Rename("a", name); e != want {
			t.Errorf("Rename to %d bytes: %d", size, e)
		}
		b.rename("a", name)
	}
	for _, size := range []int{1 << 16, 1<<16 + 1, 1<<16 + 64, 1 << 20} {
		b := start(t)
		b.create(long(size))
		b.create("a")
		b.rename("a", long(size))
		b.is(1, "a:1")
	}
	b := start(t)
	for i := range 256 {
		b.create(string([]byte{byte(i)}))
		b.create(strings.Repeat(string([]byte{byte(i)}), 64))
		b.rename(string([]byte{byte(i)}), string([]byte{'x', byte(i)}))
	}
	if len(b.f.Names()) != 512 {
		t.Errorf("there are %d names", len(b.f.Names()))
	}
}

// P7.1: bytes that look alike are other names; what counts is bytes, not letters: 64 letters of two bytes are no name.
func TestNamesAreBytes(t *testing.T) {
	b := start(t)
	for _, name := range []string{"a", "A", "a ", " a", "a\x00", "\x00a", "a/b", ".", "..", "\xc3\xa9", "e\xcc\x81", "\xff", "\xff\xff"} {
		b.create(name)
		b.create(name)
	}
	if n := b.f.Pending(); n != 13 {
		t.Errorf("there are %d acts", n)
	}
	b.create(strings.Repeat("\xc3\xa9", 32))
	b.create(strings.Repeat("\xc3\xa9", 33))
	b.create(strings.Repeat("\xc3\xa9", 64))
	if n := b.f.Pending(); n != 14 {
		t.Errorf("there are %d acts", n)
	}
}

// P7.1: a name that is there is not made again, whether it lasts or not, and by whatever it came to be there.
func TestCreateTwice(t *testing.T) {
	for name, come := range map[string]func(b *both){
		"created":                func(b *both) { b.create("a") },
		"created, synced":        func(b *both) { b.create("a"); b.sync() },
		"renamed":                func(b *both) { b.create("b"); b.rename("b", "a") },
		"renamed, synced":        func(b *both) { b.create("b"); b.sync(); b.rename("b", "a"); b.sync() },
		"renamed to itself":      func(b *both) { b.create("a"); b.rename("a", "a") },
		"survived":               func(b *both) { b.create("a"); b.survive(1) },
		"back behind a survive":  func(b *both) { b.create("a"); b.sync(); b.remove("a"); b.survive(0) },
		"created behind removal": func(b *both) { b.create("a"); b.remove("a"); b.create("a") },
	} {
		b := start(t)
		come(b)
		acts, number := b.f.Pending(), first(b.f.Find("a"))
		for range 3 {
			if n, e := b.f.Create("a"); n != 0 || e != api.ErrTwice {
				t.Errorf("%s: Create a: %d, %d", name, n, e)
			}
			b.create("a")
		}
		b.is(acts, "a:"+strconv.Itoa(number))
	}
	for name, leave := range map[string]func(b *both){
		"removed":         func(b *both) { b.create("a"); b.remove("a") },
		"removed, synced": func(b *both) { b.create("a"); b.sync(); b.remove("a"); b.sync() },
		"renamed away":    func(b *both) { b.create("a"); b.rename("a", "b") },
		"not survived":    func(b *both) { b.create("a"); b.survive(0) },
		"removal stayed":  func(b *both) { b.create("a"); b.sync(); b.remove("a"); b.rename("b", "c"); b.survive(1) },
	} {
		b := start(t)
		leave(b)
		if n, e := b.copied().f.Create("a"); n != 2 || e != api.OK {
			t.Errorf("%s: Create a: %d, %d", name, n, e)
		}
		b.create("a")
	}
}

func first(n int, _ bool) int { return n }

// P7.1: renames to a name that is not there, to one that is, to itself, to what may be none; of what is not there.
func TestRename(t *testing.T) {
	for _, synced := range []bool{false, true} {
		for _, x := range []struct {
			a, b  string
			e     api.Errno
			names []string
		}{
			{"a", "c", api.OK, []string{"b:2", "c:1"}},
			{"a", "b", api.OK, []string{"b:1"}},
			{"b", "a", api.OK, []string{"a:2"}},
			{"a", "a", api.OK, []string{"a:1", "b:2"}},
			{"b", "b", api.OK, []string{"a:1", "b:2"}},
			{"a", long(64), api.OK, []string{"b:2", long(64) + ":1"}},
			{"a", long(65), api.ErrArg, nil},
			{"a", "", api.ErrArg, nil},
			{"c", "a", api.ErrNone, nil},
			{"c", "d", api.ErrNone, nil},
			{"c", "c", api.ErrNone, nil},
			{"", "a", api.ErrNone, nil},
			{"", "c", api.ErrNone, nil},
			{long(65), "a", api.ErrNone, nil},
			{"c", "", api.ErrArg, nil},
			{"c", long(65), api.ErrArg, nil},
			{"", "", api.ErrArg, nil},
			{long(65), long(65), api.ErrArg, nil},
		} {
			b := start(t)
			b.create("a")
			b.create("b")
			acts := 2
			if synced {
				b.sync()
				acts = 0
			}
			if e := b.copied().f.Rename(x.a, x.b); e != x.e {
				t.Errorf("%s Rename(%s, %s): %d, not %d", b.told(), short(x.a), short(x.b), e, x.e)
			}
			b.rename(x.a, x.b)
			if x.e == api.OK {
				b.is(acts+1, x.names...)
			} else {
				b.is(acts, "a:1", "b:2")
			}
		}
	}
}

// P7.1: renames in a row: numbers go with names, and what was overwritten does not come back.
func TestRenamesInARow(t *testing.T) {
	b := start(t)
	rows()["a swap"](b)
	b.is(5, "a:2", "b:1")
	b.rename("a", "b")
	b.is(6, "b:2")
	b.rename("b", "a")
	b.is(7, "a:2")
	b.rename("b", "c")
	b.is(7, "a:2")
	b.sync()
	b.rename("a", "a")
	b.is(1, "a:2")
	b.survive(1)
	b.is(0, "a:2")
}

// P7.1: removals of what is there, whether it lasts or not, and of what is not.
func TestRemove(t *testing.T) {
	for _, synced := range []bool{false, true} {
		b := start(t)
		b.create("a")
		b.create("b")
		if synced {
			b.sync()
		}
		acts := b.f.Pending()
		for _, name := range []string{"", "c", "A", "ab", long(64), long(65), long(1000)} {
			if e := b.f.Remove(name); e != api.ErrNone {
				t.Errorf("Remove(%s): %d", short(name), e)
			}
			b.remove(name)
		}
		b.is(acts, "a:1", "b:2")
		if e := b.copied().f.Remove("a"); e != api.OK {
			t.Errorf("Remove(a): %d", e)
		}
		b.remove("a")
		b.is(acts+1, "b:2")
		if e := b.f.Remove("a"); e != api.ErrNone {
			t.Errorf("Remove(a) again: %d", e)
		}
		b.remove("a")
		b.rename("a", "c")
		b.is(acts+1, "b:2")
		b.remove("b")
		b.is(acts + 2)
		b.create("a")
		b.remove("a")
		b.is(acts + 4)
	}
}

// P7.2: names are told in the order of their bytes, in whatever order they were made.
func TestNamesRise(t *testing.T) {
	want := []string{"\x00", "\x00\x00", "\x00\xff", "\x01", "A", "Z", "a", "a\x00", "a\x00b", "a ", "a-", "aa", "ab", "b", "seg-1", "seg-10", "seg-2", "z", "\x7f", "\x80", "\xc3\xa9", "\xed\xa0\x80", "\xef\xbf\xbd", "\xf0\x9f\x98\x80", "\xff", "\xff\x00", "\xff\xff"}
	n := numbers(7)
	for range 20 {
		l := slices.Clone(want)
		for i := range l {
			j := i + n.below(len(l)-i)
			l[i], l[j] = l[j], l[i]
		}
		b := start(t)
		for i, name := range l {
			if i%3 == 0 {
				b.create("first of " + strconv.Itoa(i))
				b.rename("first of "+strconv.Itoa(i), name)
			} else {
				b.create(name)
			}
			if i%5 == 0 {
				b.sync()
			}
		}
		if got := b.f.Names(); !slices.Equal(got, want) {
			t.Fatalf("%s: Names are %q", b.told(), got)
		}
	}
}

// P7.2: how many acts there are, behind each act, and behind calls that failed, or asked.
func TestPending(t *testing.T) {
	b := start(t)
	for i, x := range []struct {
		call func()
		acts int
	}{
		{func() {}, 0},
		{func() { b.f.Create("") }, 0},
		{func() { b.f.Rename("a", "b") }, 0},
		{func() { b.f.Remove("a") }, 0},
		{func() { b.f.Sync() }, 0},
		{func() { b.f.Survive(3) }, 0},
		{func() { b.f.Create("a") }, 1},
		{func() { b.f.Create("a") }, 1},
		{func() { b.f.Create(long(65)) }, 1},
		{func() { b.f.Create("b") }, 2},
		{func() { b.f.Rename("c", "a") }, 2},
		{func() { b.f.Rename("a", "") }, 2},
		{func() { b.f.Rename("a", "b") }, 3},
		{func() { b.f.Rename("b", "b") }, 4},
		{func() { b.f.Remove("a") }, 4},
		{func() { b.f.Find("a"); b.f.Find("b"); b.f.Names(); b.f.Pending() }, 4},
		{func() { b.f.Copy().Create("d") }, 4},
		{func() { b.f.Remove("b") }, 5},
		{func() { b.f.Sync() }, 0},
		{func() { b.f.Create("b") }, 1},
		{func() { b.f.Create("c") }, 2},
		{func() { b.f.Survive(1) }, 0},
		{func() { b.f.Create("c") }, 1},
		{func() { b.f.Survive(-1) }, 0},
		{func() { b.f.Remove("b") }, 1},
		{func() { b.f.Survive(9) }, 0},
	} {
		x.call()
		if n := b.f.Pending(); n != x.acts {
			t.Errorf("behind call %d there are %d acts, not %d", i, n, x.acts)
		}
	}
}

// P7.3: a Sync makes all last, with acts and with none, and changes nothing of what is there.
func TestSync(t *testing.T) {
	for name, row := range rows() {
		b := start(t)
		row(b)
		names := b.f.Names()
		b.sync()
		if l := b.f.Names(); !slices.Equal(l, names) || b.f.Pending() != 0 {
			t.Errorf("%s: %q, %d acts", name, l, b.f.Pending())
		}
		for _, n := range edges(0) {
			c := b.copied()
			c.survive(n)
			c.sync()
			if l := c.f.Names(); !slices.Equal(l, names) {
				t.Errorf("%s: of a Survive(%d) behind a Sync there are %q, not %q", name, n, l, names)
			}
		}
		b.sync()
		b.create("d")
		b.survive(0)
		if l := b.f.Names(); !slices.Equal(l, names) {
			t.Errorf("%s: behind a Sync there are %q, not %q", name, l, names)
		}
	}
}

// P7.3: what survives, of each number of acts.
func TestSurvive(t *testing.T) {
	for name, row := range rows() {
		t.Run(name, func(t *testing.T) {
			made := start(t)
			row(made)
			for _, n := range edges(made.f.Pending()) {
				b := made.copied()
				b.survive(n)
				b.survive(n)
			}
			for n := -2; n <= made.f.Pending()+2; n++ {
				b := made.copied()
				b.survive(n)
				b.survive(0)
			}
			made.alike()
		})
	}
}

// P7.3: what survives, told by hand.
func TestSurviveByHand(t *testing.T) {
	for _, x := range []struct {
		row   string
		n     int
		names []string
	}{
		{"none", 0, nil},
		{"none", 7, nil},
		{"a create", -1, nil},
		{"a create", 0, nil},
		{"a create", 1, []string{"a:1"}},
		{"a create", 2, []string{"a:1"}},
		{"creates", 2, []string{"a:2", "b:1"}},
		{"a rename over", 1, []string{"a:1"}},
		{"a rename over", 2, []string{"a:1", "b:2"}},
		{"a rename over", 3, []string{"b:1"}},
		{"a swap", 3, []string{"b:2", "c:1"}},
		{"a swap", 4, []string{"a:2", "c:1"}},
		{"a swap", 5, []string{"a:2", "b:1"}},
		{"a sync", 0, []string{"a:1", "b:2"}},
		{"a sync, acts", math.MinInt, []string{"a:1", "b:2"}},
		{"a sync, acts", 0, []string{"a:1", "b:2"}},
		{"a sync, acts", 1, []string{"b:1"}},
		{"a sync, acts", 2, []string{"a:3", "b:1"}},
		{"a sync, acts", 3, []string{"a:3"}},
		{"a sync, acts", math.MaxInt, []string{"a:3"}},
		{"a sync, removes", 0, []string{"a:1", "b:2"}},
		{"a sync, removes", 1, []string{"b:2"}},
		{"a sync, removes", 2, nil},
		{"a survive, acts", 0, []string{"a:1"}},
		{"a survive, acts", 1, []string{"a:1", "c:3"}},
		{"a survive, acts", 2, []string{"a:3"}},
		{"a survive, acts", 3, []string{"a:3", "d:4"}},
		{"as a manifest", 0, []string{"manifest:1"}},
		{"as a manifest", 1, []string{"ab:2", "manifest:1"}},
		{"as a manifest", 2, []string{"manifest:2"}},
	} {
		b := start(t)
		rows()[x.row](b)
		b.survive(x.n)
		b.is(0, x.names...)
	}
}

// P7.3: behind what survives acts go on as ever: of these too just the first ones survive.
func TestActsBehindSurvive(t *testing.T) {
	for name, row := range rows() {
		made := start(t)
		row(made)
		for n := -1; n <= made.f.Pending()+1; n++ {
			b := made.copied()
			b.survive(n)
			b.create("d")
			b.create("ab")
			b.rename("ab", "a")
			b.remove("a")
			c := b.copied()
			for m := range 6 {
				d := b.copied()
				d.survive(m)
				d.create("c")
				d.survive(1)
			}
			b.sync()
			b.create("b")
			b.survive(0)
			c.alike()
		}
		if t.Failed() {
			t.Fatal(name)
		}
	}
}

// P7.1, P7.4: a new number is never one that was given, though what had it is gone.
func TestNewNumbers(t *testing.T) {
	b := start(t)
	next := func(name string, n int) {
		t.Helper()
		if got, e := b.f.Create(name); got != n || e != api.OK {
			t.Errorf("Create(%s) is %d, %d, not %d", name, got, e, n)
		}
	}
	next("a", 1)
	b.f.Remove("a")
	next("a", 2)
	b.f.Create("a")
	b.f.Create("")
	next("b", 3)
	b.f.Rename("a", "b")
	next("a", 4)
	b.f.Sync()
	next("c", 5)
	next("d", 6)
	b.f.Survive(1)
	next("d", 7)
	b.f.Survive(0)
	next("d", 8)
	next("e", 9)
	b.f.Survive(-5)
	b.f.Survive(9)
	next("d", 10)
	b.f.Remove("a")
	b.f.Remove("b")
	b.f.Remove("c")
	b.f.Remove("d")
	b.f.Sync()
	next("d", 11)
	c := b.f.Copy()
	next("e", 12)
	if n, e := c.Create("e"); n != 12 || e != api.OK {
		t.Errorf("the copy's new number is %d, %d", n, e)
	}
	c.Survive(0)
	if n, e := c.Copy().Create("e"); n != 13 || e != api.OK {
		t.Errorf("the new number of a copy's copy is %d, %d", n, e)
	}
}

// P7.3: a copy is alike, and what is done to one of the two changes nothing of the other, whichever it is.
func TestCopy(t *testing.T) {
	changes := []func(b *both){
		func(b *both) { b.create("m") },
		func(b *both) { b.create("o"); b.create("p"); b.rename("o", "a") },
		func(b *both) { b.remove("a"); b.remove("b") },
		func(b *both) { b.rename("a", "b"); b.create("a") },
		func(b *both) { b.sync(); b.create("q") },
		func(b *both) { b.create("r"); b.sync(); b.remove("a") },
		func(b *both) { b.survive(0); b.create("s"); b.create("u") },
		func(b *both) { b.survive(1); b.create("v") },
		func(b *both) { b.survive(2); b.remove("a"); b.create("a") },
		func(b *both) { b.survive(99); b.remove("b"); b.sync() },
	}
	for name, row := range rows() {
		for _, one := range changes {
			for _, other := range changes {
				b := start(t)
				row(b)
				c := b.copied()
				c.alike()
				one(c)
				b.alike()
				other(b)
				c.alike()
				// What survives is made of the acts, so that one that was changed in the other is seen there.
				for _, x := range []*both{b, c} {
					for n := range x.f.Pending() + 1 {
						x.copied().survive(n)
					}
					x.alike()
				}
			}
		}
		if t.Failed() {
			t.Fatal(name)
		}
	}
}

// P7.3: copies of one folder, and copies of copies, all of which go on by themselves, in whatever order.
func TestManyCopies(t *testing.T) {
	for many := range 10 {
		b := start(t)
		for i := range many {
			b.create("n" + strconv.Itoa(i))
		}
		l := []*both{b, b.copied(), b.copied()}
		l = append(l, l[1].copied())
		for i, x := range l {
			x.create("own" + strconv.Itoa(i))
		}
		l = append(l, l[0].copied(), l[2].copied())
		for i, x := range l {
			x.remove("own" + strconv.Itoa(i))
			x.create("last" + strconv.Itoa(i))
			for _, y := range l {
				y.alike()
			}
		}
		for _, x := range l {
			for n := range x.f.Pending() + 1 {
				x.copied().survive(n)
			}
		}
		for _, x := range l {
			x.survive(many + 1)
			x.create("end")
			x.sync()
		}
		for _, x := range l {
			x.alike()
		}
	}
}

// P7.1 to P7.4: all short rows of calls are what the words say, and so is what survives of them.
func TestShortRows(t *testing.T) {
	calls := []func(b *both){
		func(b *both) { b.create("a") },
		func(b *both) { b.create("b") },
		func(b *both) { b.create("") },
		func(b *both) { b.rename("a", "b") },
		func(b *both) { b.rename("b", "a") },
		func(b *both) { b.rename("a", "a") },
		func(b *both) { b.remove("a") },
		func(b *both) { b.remove("b") },
		func(b *both) { b.sync() },
		func(b *both) { b.survive(1) },
	}
	var from func(b *both, many int)
	from = func(b *both, many int) {
		for n := -1; n <= b.f.Pending()+1; n++ {
			b.copied().survive(n)
		}
		if many == 0 || t.Failed() {
			return
		}
		for _, call := range calls {
			next := b.copied()
			call(next)
			from(next, many-1)
		}
	}
	from(start(t), 4)
}

// P7.1 to P7.4: long rows of any calls, and copies that go on by themselves, are what the words say.
func TestLongRows(t *testing.T) {
	n := numbers(2)
	for range 200 {
		l := []*both{start(t)}
		for range 150 {
			i := n.below(len(l))
			if n.below(15) == 0 {
				c := l[i].copied()
				if len(l) < 4 {
					l = append(l, c)
				} else {
					l[n.below(len(l))] = c
				}
			}
			n.any(l[i])
			for _, b := range l {
				b.alike()
			}
			if t.Failed() {
				return
			}
		}
	}
}

// P7.4: whatever survives of acts is what the folder itself answered behind as many of them; no number is given twice.
func TestSurvivesWhatWasThere(t *testing.T) {
	n := numbers(3)
	for range 300 {
		f := folder.New()
		was, given := [][]string{nil}, 0
		for range n.below(60) {
			switch n.below(10) {
			case 0:
				f.Sync()
				was = was[len(was)-1:]
			case 1:
				many := n.below(f.Pending() + 1)
				f.Survive(many)
				was = was[many : many+1]
			case 2, 3:
				f.Remove(n.name())
			case 4, 5:
				f.Rename(n.name(), n.name())
			default:
				if number, e := f.Create(n.name()); e == api.OK {
					if number <= given {
						t.Fatalf("the number %d is given behind %d", number, given)
					}
					given = number
				}
			}
			if f.Pending() == len(was) {
				was = append(was, seen(f))
			}
			if f.Pending() != len(was)-1 {
				t.Fatalf("there are %d acts, not %d", f.Pending(), len(was)-1)
			}
		}
		for many := range was {
			g := f.Copy()
			g.Survive(many)
			if !slices.Equal(seen(g), was[many]) || g.Pending() != 0 {
				t.Fatalf("of %d acts survives %q, not %q", many, seen(g), was[many])
			}
		}
	}
}

// seen is what the folder answers: all names, and their numbers.
func seen(f *folder.Folder) []string {
	var l []string
	for _, name := range f.Names() {
		l = append(l, name+":"+strconv.Itoa(first(f.Find(name))))
	}
	return l
}

// P7.3, P1: each call of a folder that is none, whatever else is wrong.
func TestNoFolder(t *testing.T) {
	var f *folder.Folder
	for _, a := range asked {
		if n, e := f.Create(a); n != 0 || e != api.ErrNil {
			t.Errorf("Create(%s) of no folder is %d, %d", short(a), n, e)
		}
		if e := f.Remove(a); e != api.ErrNil {
			t.Errorf("Remove(%s) of no folder is %d", short(a), e)
		}
		if n, is := f.Find(a); n != 0 || is {
			t.Errorf("Find(%s) of no folder is %d, %t", short(a), n, is)
		}
		for _, b := range asked {
			if e := f.Rename(a, b); e != api.ErrNil {
				t.Errorf("Rename(%s, %s) of no folder is %d", short(a), short(b), e)
			}
		}
	}
	f.Sync()
	for _, n := range edges(0) {
		f.Survive(n)
	}
	if l := f.Names(); len(l) != 0 || f.Pending() != 0 || f.Copy() != nil {
		t.Errorf("no folder is %q, %d, %v", l, f.Pending(), f.Copy())
	}
}

// P1: a folder that nobody made has no names, and goes on as one that New made.
func TestZeroFolder(t *testing.T) {
	zero := func() *both {
		b := start(t)
		b.f, b.calls = &folder.Folder{}, "Folder{}"
		return b
	}
	for _, row := range rows() {
		b := zero()
		b.alike()
		b.copied().create("a")
		row(b)
		b.survive(1)
	}
	b := zero()
	b.sync()
	b.survive(3)
	b.remove("a")
	b.rename("a", "b")
	b.is(0)
	b.create("a")
	b.survive(0)
	b.create("a")
	b.sync()
	b.is(0, "a:2")
}

// What was answered is the caller's, who may change it; and it stays as it was, whatever is done behind it.
func TestAnswersAreTheCallers(t *testing.T) {
	b := start(t)
	for _, name := range []string{"a", "b", "c"} {
		b.create(name)
	}
	for _, synced := range []bool{false, true} {
		if synced {
			b.sync()
		}
		one, other := b.f.Names(), b.f.Names()
		one[0], one[2] = "z", ""
		one = append(one[:1], "y")
		b.alike()
		if !slices.Equal(other, []string{"a", "b", "c"}) {
			t.Errorf("what was answered is %q now", other)
		}
		c := b.copied()
		c.rename("a", "d")
		c.remove("b")
		c.create("e")
		c.survive(1)
		if !slices.Equal(other, []string{"a", "b", "c"}) || !slices.Equal(one, []string{"z", "y"}) {
			t.Errorf("what was answered is %q and %q now", other, one)
		}
	}
}

// A long row of acts, with what is asked in between, ends soon enough, and so does one with a Sync each time.
func TestManyActs(t *testing.T) {
	const many = 100000
	for _, synced := range []bool{false, true} {
		f := folder.New()
		for i := range many {
			name := "n" + strconv.Itoa(i)
			if n, e := f.Create(name); n != i+1 || e != api.OK {
				t.Fatalf("Create(%s) is %d, %d", name, n, e)
			}
			if i%2 == 1 {
				f.Remove(name)
			}
			if n, is := f.Find(name); is != (i%2 == 0) || is && n != i+1 {
				t.Fatalf("Find(%s) is %d, %t", name, n, is)
			}
			if synced {
				f.Sync()
			}
		}
		if n := len(f.Names()); n != many/2 {
			t.Errorf("there are %d names", n)
		}
		f.Survive(many / 2)
		want := many / 2
		if !synced {
			// Of two creates and a removal, which are three acts, one name is there; behind the last three there are two creates.
			want = many/2/3 + many/2%3
		}
		if n := len(f.Names()); n != want {
			t.Errorf("behind a Survive there are %d names, not %d", n, want)
		}
	}
}
