package replay_test

import (
	"iter"
	"slices"
	"strconv"
	"testing"

	"cedilla/api"
	"cedilla/disk"
	"cedilla/replay"
	"cedilla/wal"
)

// run is appends and Syncs (nil), one behind the other, by a writer whose first file is of that number.
type run struct {
	first, most, quota int
	calls              [][]api.Entry
}

// did is what a run did on a disk.
type did struct {
	d *disk.Disk
	// What was appended.
	appended []api.Entry
	// How many of them were appended ahead of the last Sync that answered OK.
	sure int
	what string
}

// do does the run, up to the first error, with a stop at that step (0: at none).
func (r run) do(stop int) did {
	x := did{d: disk.New(r.quota), what: "stop " + strconv.Itoa(stop)}
	x.d.Arm(stop)
	x.goesOn(wal.New(x.d, r.first, r.most), r.calls)
	return x
}

// goesOn does calls of a writer of that disk, up to the first error.
func (x *did) goesOn(l *wal.Log, calls [][]api.Entry) {
	was := x.appended
	var asked []api.Entry
	for _, call := range calls {
		e := api.OK
		if call == nil {
			e = l.Sync()
		} else {
			asked = append(asked, call...)
			e = l.Append(call...)
		}
		x.appended = slices.Concat(was, asked[:l.Done()])
		if e != api.OK {
			return
		}
		if call == nil {
			x.sure = len(x.appended)
		}
	}
}

// stayed finds out what Load finds on a disk that was restarted: a beginning of what was appended, with all that is sure.
func (x did) stayed(t *testing.T, d *disk.Disk, first int) replay.Found {
	t.Helper()
	f, e := replay.Load(d, first)
	if e != api.OK {
		t.Fatalf("%s: Load answers %d, of %q", x.what, e, d.Files())
	}
	many := len(f.Entries)
	if many < x.sure || many > len(x.appended) || !slices.Equal(f.Entries, x.appended[:many]) {
		t.Fatalf("%s: of %d entries, %d sure, there are %d: %v", x.what, len(x.appended), x.sure, many, f.Entries)
	}
	want, e := loadByWords(d.Files(), first)
	if !same(f, want) || e != api.OK {
		t.Fatalf("%s: Load answers %v, not %v", x.what, f, want)
	}
	if len(f.Logs) != len(d.List()) {
		t.Fatalf("%s: there are %q, found are %d", x.what, d.List(), f.Logs)
	}
	return f
}

// lasts finds out whether behind a Mend just the same is found, nothing is torn, and no stop takes anything of it.
func (x did) lasts(t *testing.T, d *disk.Disk, first int, f replay.Found) {
	t.Helper()
	if e := replay.Mend(d, f); e != api.OK {
		t.Fatalf("%s: Mend answers %d", x.what, e)
	}
	f.Torn = false
	if g, e := replay.Load(d, first); !same(g, f) || e != api.OK {
		t.Fatalf("%s: behind Mend %v, %d is found, not %v", x.what, g, e, f)
	}
	was := d.Files()
	for _, row := range rows() {
		again := d.Copy()
		again.Restart(row)
		if !slices.Equal(again.Files(), was) {
			t.Fatalf("%s: behind Mend, and a restart by %d, there are %q, not %q", x.what, row, again.Files(), was)
		}
		if g, e := replay.Load(again, first); !same(g, f) || e != api.OK {
			t.Fatalf("%s: behind Mend, and a restart, %v, %d is found, not %v", x.what, g, e, f)
		}
	}
}

// stoppedMends finds out whether, wherever a Mend stops, and whatever then stays, the same is found.
func (x did) stoppedMends(t *testing.T, d *disk.Disk, first int, f replay.Found) {
	t.Helper()
	for stop := 1; stop <= 2; stop++ {
		stopped := d.Copy()
		stopped.Arm(stop)
		e := replay.Mend(stopped, f)
		if (e == api.ErrCrash) != stopped.Down() || e != api.OK && e != api.ErrCrash {
			t.Fatalf("%s: a Mend that stops at %d answers %d", x.what, stop, e)
		}
		for _, row := range rows() {
			again := stopped.Copy()
			again.Restart(row)
			g := x.stayed(t, again, first)
			if !slices.Equal(g.Logs, f.Logs) || !slices.Equal(g.Entries, f.Entries) || g.Good != f.Good || g.Torn && !f.Torn {
				t.Fatalf("%s: behind a Mend that stopped at %d %v is found, not %v", x.what, stop, g, f)
			}
			if e := replay.Mend(again, g); e != api.OK {
				t.Fatalf("%s: a second Mend answers %d", x.what, e)
			}
			f := f
			f.Torn = false
			if g, e := replay.Load(again, first); !same(g, f) || e != api.OK {
				t.Fatalf("%s: behind a second Mend %v, %d is found, not %v", x.what, g, e, f)
			}
		}
	}
}

// runs are some runs.
func runs() []run {
	n := numbers(7)
	l := []run{
		{5, 12, 1000, [][]api.Entry{{a}, {b}, {c}, nil}},
		{9, 8, 20, [][]api.Entry{{a, b, c}, nil}},
		{1, 1, 1000, [][]api.Entry{nil, {a, b}, nil, nil, {c}}},
		{mostCount - 2, 8, 1000, [][]api.Entry{{a, b, c}, nil}},
		{1, 1000, 1000, [][]api.Entry{{a}, {b}, nil, {c}, {a, b}}},
		{4, 10, 1000, nil},
	}
	for most := 1; most < 50; most += 6 {
		r := run{first: 7 + n.below(95), most: most, quota: 60 + n.below(400)}
		for range 6 {
			if n.below(3) == 0 {
				r.calls = append(r.calls, nil)
			} else {
				r.calls = append(r.calls, append(n.entries(3), a))
			}
		}
		l = append(l, r)
	}
	return l
}

// stays tells rows of what may stay of a disk: of all files alike, and of each by itself.
func stays() iter.Seq[[]uint16] {
	n := numbers(8)
	return func(yield func([]uint16) bool) {
		for dir := range uint16(3) {
			for done := range uint16(3) {
				for part := range uint16(10) {
					if !yield(append([]uint16{dir}, slices.Repeat([]uint16{done, part}, 30)...)) {
						return
					}
				}
			}
		}
		for range 30 {
			row := []uint16{uint16(n.below(3))}
			for range 60 {
				row = append(row, uint16(n.below(14)))
			}
			if !yield(row) {
				return
			}
		}
		_ = yield(nil) && yield(all())
	}
}

// P11.5: the logs of a writer, stopped at each step, whatever then stays.
func TestWhatStays(t *testing.T) {
	torn, lost, whole := 0, 0, 0
	for i, r := range runs() {
		seen := map[string]int{}
		for stop, stopped := 0, true; stopped; stop++ {
			x := r.do(stop)
			stopped = x.d.Down() || stop == 0
			x.what = "run " + strconv.Itoa(i) + ", " + x.what
			for row := range stays() {
				d := x.d.Copy()
				d.Restart(row)
				f := x.stayed(t, d, r.first)
				if f.Torn {
					torn++
				}
				if len(f.Entries) < len(x.appended) {
					lost++
				} else {
					whole++
				}
				// Files that are alike are mended once only.
				key := ""
				for _, file := range d.Files() {
					key += file.Name + " " + strconv.QuoteToASCII(file.Bytes) + "\n"
				}
				seen[key]++
				if seen[key] > 1 {
					continue
				}
				x.stoppedMends(t, d, r.first, f)
				x.lasts(t, d, r.first, f)
			}
		}
	}
	if torn == 0 || lost == 0 || whole == 0 {
		t.Errorf("%d were torn, of %d entries were lost, %d were whole", torn, lost, whole)
	}
}

// P11.5: without a stop all that was appended is found.
func TestWithoutAStop(t *testing.T) {
	for i, r := range runs() {
		r.quota = 1 << 40
		x := r.do(0)
		x.what = "run " + strconv.Itoa(i)
		if f := x.stayed(t, x.d, r.first); len(f.Entries) != len(x.appended) || f.Torn {
			t.Fatalf("%s: found are %v, torn %t", x.what, f.Entries, f.Torn)
		}
	}
}

// P11.5: on a disk that became full, ahead of a restart, and behind one, what was cut is torn.
func TestFull(t *testing.T) {
	l := []api.Entry{a, b, {Word: "word", Weight: 300}, c, a}
	size := len(framed(l...))
	for quota := range size + 1 {
		for _, most := range []int{1, 9, 20, 1000} {
			x := run{3, most, quota, [][]api.Entry{l}}.do(0)
			x.what = "quota " + strconv.Itoa(quota)
			f := x.stayed(t, x.d, 3)
			if len(f.Entries) != len(x.appended) || f.Torn != (len(framed(f.Entries...)) < quota) {
				t.Fatalf("%s: found are %v of %v, torn %t", x.what, f.Entries, x.appended, f.Torn)
			}
			d := x.d.Copy()
			d.Restart(all())
			if g := x.stayed(t, d, 3); !same(f, g) {
				t.Fatalf("%s: behind a restart %v is found, not %v", x.what, g, f)
			}
			if len(f.Logs) > 0 {
				x.lasts(t, d, 3, f)
			}
		}
	}
}

// P11.5, P11.3: from a later log on just what that one, and those behind it, have is found.
func TestLaterFloors(t *testing.T) {
	x := run{3, 15, 1000, [][]api.Entry{{a, b, c, a, b, c, a}, nil, {b}}}.do(0)
	for row := range stays() {
		d := x.d.Copy()
		d.Restart(row)
		f := x.stayed(t, d, 3)
		many := 0
		for _, n := range f.Logs {
			want := f
			want.Logs, want.Entries = f.Logs[n-3:], f.Entries[many:]
			loads(t, "from a later log on", d, n, want, api.OK)
			s, _ := d.ReadAt(log(n), 0, 1000)
			l, _ := readByWords(s)
			many += len(l)
		}
		loads(t, "behind all logs", d, 3+len(f.Logs), replay.Found{}, api.OK)
	}
}

// P11.5: again and again: a writer goes on with the last log, or begins a new one, all stops, in Mend too, and is found again.
func TestAgainAndAgain(t *testing.T) {
	n := numbers(9)
	for i := range 300 {
		x := did{d: disk.New(1 << 40)}
		most := 1 + n.below(60)
		var f replay.Found
		for range 12 {
			var l *wal.Log
			if many := len(f.Logs); many == 0 {
				l = wal.New(x.d, 3, most)
			} else if last := f.Logs[many-1]; n.below(3) == 0 {
				l = wal.New(x.d, last+1, most)
			} else {
				l = wal.Of(x.d, last, most)
			}
			var calls [][]api.Entry
			for range n.below(6) {
				calls = append(calls, pick(&n, [][]api.Entry{nil, append(n.entries(3), a)}))
			}
			x.d.Arm(n.below(20))
			x.what = "round of " + strconv.Itoa(i)
			x.goesOn(l, calls)
			f = x.found(t, &n)
			x.appended, x.sure = f.Entries, len(f.Entries)
		}
	}
}

// found stops and restarts the disk, and mends it, which may stop too, till that is done, and is what was found.
func (x did) found(t *testing.T, n *numbers) replay.Found {
	t.Helper()
	for {
		row := []uint16{uint16(n.below(3))}
		for range 80 {
			row = append(row, uint16(n.below(12)))
		}
		x.d.Restart(row)
		f := x.stayed(t, x.d, 3)
		x.d.Arm(n.below(4))
		e := replay.Mend(x.d, f)
		x.d.Arm(0)
		if e == api.OK {
			f.Torn = false
			if g, why := replay.Load(x.d, 3); !same(g, f) || why != api.OK {
				t.Fatalf("%s: behind Mend %v, %d is found, not %v", x.what, g, why, f)
			}
			return f
		}
		if e != api.ErrCrash {
			t.Fatalf("%s: Mend answers %d", x.what, e)
		}
	}
}
