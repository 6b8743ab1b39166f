package replay_test

import (
	"math"
	"slices"
	"strconv"
	"testing"

	"cedilla/api"
	"cedilla/disk"
	"cedilla/replay"
)

// mendByWords does what the chapter's words say of Mend.
func mendByWords(d *disk.Disk, f replay.Found) api.Errno {
	if len(f.Logs) == 0 {
		return api.OK
	}
	last := f.Logs[0]
	for _, n := range f.Logs {
		last = max(last, n)
	}
	if f.Torn {
		if e := d.Truncate(log(last), f.Good); e != api.OK {
			return e
		}
	}
	return d.Sync(log(last))
}

// mends finds out whether Mend does to the disk what the words say, in as many steps, with that answer, and what then stays.
func mends(t *testing.T, what string, d *disk.Disk, f replay.Found, e api.Errno) {
	t.Helper()
	want := d.Copy()
	if e := mendByWords(want, f); e != api.OK && e != api.ErrCrash && e != api.ErrRange && e != api.ErrNone {
		t.Fatalf("%s: the words answer %d", what, e)
	}
	was := replay.Found{Logs: slices.Clone(f.Logs), Entries: slices.Clone(f.Entries), Good: f.Good, Torn: f.Torn}
	if got := replay.Mend(d, f); got != e {
		t.Fatalf("%s: Mend(%v) answers %d, not %d", what, f, got, e)
	}
	if d.Steps() != want.Steps() || d.Down() != want.Down() || !slices.Equal(d.Files(), want.Files()) {
		t.Fatalf("%s: behind Mend(%v) there were %d steps, not %d; there are %q, not %q", what, f, d.Steps(), want.Steps(), d.Files(), want.Files())
	}
	if !same(f, was) {
		t.Fatalf("%s: Mend changes what was found to %v", what, f)
	}
	staysAlike(t, what, d, want)
}

// unsynced is a disk whose logs, and another file, have acts that are not durable, and with a name that does not last.
func unsynced() *disk.Disk {
	d := diskOf("manifest", "m", "wal-1", framed(a), "wal-2", framed(b), "wal-3", framed(c))
	for _, name := range []string{"wal-1", "wal-2", "manifest"} {
		d.Append(name, framed(a, b))
	}
	d.Append("wal-3", framed(a))
	d.Append("wal-3", framed(b))
	d.Append("wal-3", "torn")
	d.Create("x")
	d.Append("x", "y")
	return d
}

// P11.4: of no disk, whatever was found.
func TestMendOfNoDisk(t *testing.T) {
	for _, f := range []replay.Found{{}, {Good: 3, Torn: true}, {Logs: []int{1}}, {Logs: []int{1, 2}, Entries: []api.Entry{a}, Good: 8, Torn: true}, {Logs: []int{-1}, Good: -1, Torn: true}} {
		if e := replay.Mend(nil, f); e != api.ErrNil {
			t.Errorf("Mend(no disk, %v) answers %d", f, e)
		}
	}
}

// P11.4: without logs it does no step, whatever else was found, also of a disk that is down, or would stop.
func TestMendWithoutLogs(t *testing.T) {
	for _, f := range []replay.Found{{}, {Logs: []int{}}, {Torn: true}, {Good: 5, Torn: true, Entries: []api.Entry{a}}, {Good: -1, Torn: true}} {
		mends(t, "without logs", unsynced(), f, api.OK)
		mends(t, "without logs, of a zero disk", &disk.Disk{}, f, api.OK)
		mends(t, "without logs, of a disk that is down", down("wal-1", framed(a)), f, api.OK)
		d := unsynced()
		d.Arm(1)
		mends(t, "without logs, of a disk that would stop", d, f, api.OK)
		if d.Down() {
			t.Error("a step was done")
		}
	}
}

// P11.4: not torn: one step, the last log's Sync; what else there is is not synced, and nothing is cut, whatever Good says.
func TestMendNotTorn(t *testing.T) {
	for _, good := range []int{8, 23, 0, 5, -1, 1000, math.MinInt, math.MaxInt} {
		d := unsynced()
		steps, was := d.Steps(), d.Files()
		mends(t, "not torn", d, replay.Found{Logs: []int{1, 2, 3}, Good: good}, api.OK)
		if d.Steps() != steps+1 || !slices.Equal(d.Files(), was) {
			t.Errorf("there were %d steps; there are %q", d.Steps()-steps, d.Files())
		}
		d.Restart(nil)
		if want := files("manifest", "m", "wal-1", framed(a), "wal-2", framed(b), "wal-3", framed(c, a, b)+"torn"); !slices.Equal(d.Files(), want) {
			t.Errorf("what stays is %q, not %q", d.Files(), want)
		}
	}
}

// P11.4: torn: two steps, Truncate and Sync of the last log alone.
func TestMendTorn(t *testing.T) {
	for good := range 28 {
		d := unsynced()
		steps := d.Steps()
		mends(t, "torn", d, replay.Found{Logs: []int{1, 2, 3}, Good: good, Torn: true}, api.OK)
		if d.Steps() != steps+2 {
			t.Errorf("there were %d steps", d.Steps()-steps)
		}
		d.Restart(nil)
		if want := files("manifest", "m", "wal-1", framed(a), "wal-2", framed(b), "wal-3", (framed(c, a, b) + "torn")[:good]); !slices.Equal(d.Files(), want) {
			t.Errorf("what stays is %q, not %q", d.Files(), want)
		}
	}
}

// P11.4: of a disk that stops at each step, and of one that is down.
func TestMendStopped(t *testing.T) {
	for _, torn := range []bool{false, true} {
		f := replay.Found{Logs: []int{1, 2, 3}, Good: 23, Torn: torn}
		steps := 1
		if torn {
			steps = 2
		}
		for stop := 1; stop <= 4; stop++ {
			d := unsynced()
			d.Arm(stop)
			e := api.ErrCrash
			if stop > steps {
				e = api.OK
			}
			mends(t, "stopped at "+strconv.Itoa(stop), d, f, e)
			if d.Down() != (stop <= steps) {
				t.Errorf("stopped at %d, Down is %t", stop, d.Down())
			}
		}
		d := down("wal-3", framed(a, b, c)+"x")
		was := d.Steps()
		mends(t, "down", d, f, api.ErrCrash)
		if d.Steps() != was+1 {
			t.Errorf("of a disk that is down %d steps are done", d.Steps()-was)
		}
	}
}

// P11.4: a Truncate that fails is the last step, and its answer is Mend's.
func TestMendFails(t *testing.T) {
	for _, good := range []int{28, 29, 1000, math.MaxInt, -1, math.MinInt} {
		d := unsynced()
		steps := d.Steps()
		mends(t, "Good that may not be", d, replay.Found{Logs: []int{3}, Good: good, Torn: true}, api.ErrRange)
		if d.Steps() != steps+1 {
			t.Errorf("there were %d steps", d.Steps()-steps)
		}
	}
	for _, torn := range []bool{false, true} {
		for _, logs := range [][]int{{4}, {3, 4}, {1, 2, 3, mostCount}, {0}, {-1}, {math.MinInt}, {3, mostNumber}, {3, mostNumber + 1}, {3, math.MaxInt}, {-3, 0}} {
			for _, good := range []int{0, 5, -1} {
				d := unsynced()
				steps := d.Steps()
				mends(t, "a log that is not there", d, replay.Found{Logs: logs, Good: good, Torn: torn}, api.ErrNone)
				if d.Steps() != steps+1 {
					t.Errorf("there were %d steps", d.Steps()-steps)
				}
			}
		}
	}
}

// P11.4: the last log is that of the greatest number, wherever that stands, and whether that counts or not.
func TestMendTheGreatest(t *testing.T) {
	for _, logs := range [][]int{{3, 2, 1}, {1, 3, 2}, {3, 1, 2}, {3}, {2, 3}, {3, 3}, {-5, 3, 0}} {
		for _, torn := range []bool{false, true} {
			d := unsynced()
			mends(t, "in any order", d, replay.Found{Logs: logs, Good: 9, Torn: torn}, api.OK)
		}
	}
	for _, n := range []int{9, 10, 99, 100, mostCount, mostCount + 1, mostNumber} {
		d := diskOf("wal-8", framed(a)+"x", log(n), framed(a)+"x")
		mends(t, "a great number", d, replay.Found{Logs: []int{8, n}, Good: 8, Torn: true}, api.OK)
		if want := diskOf("wal-8", framed(a)+"x", log(n), framed(a)); !slices.Equal(d.Files(), want.Files()) {
			t.Errorf("there are %q", d.Files())
		}
	}
}

// P11.3, P11.4: behind Mend the same is found, and nothing is torn; a second one changes nothing.
func TestMendOfLoad(t *testing.T) {
	s := framed(a, b, c)
	for at := range len(s) + 1 {
		for _, more := range []string{"", "\x00", frameOf("\x03a") + framed(a)} {
			d := diskOf("wal-4", framed(c, a), "wal-5", s[:at]+more, "x", "y")
			f, e := replay.Load(d, 4)
			if e != api.OK {
				t.Fatal(e)
			}
			mends(t, "of Load", d, f, api.OK)
			f.Torn = false
			loads(t, "mended", d, 4, f, api.OK)
			if n, _ := d.Size("wal-5"); n != f.Good {
				t.Fatalf("the last log has %d bytes, good are %d", n, f.Good)
			}
			was := d.Files()
			mends(t, "of Load again", d, f, api.OK)
			if !slices.Equal(d.Files(), was) {
				t.Fatalf("a second Mend changes the files to %q", d.Files())
			}
		}
	}
}

// P1: each pair of a disk and a finding ends, and does what the words say.
func TestMendOfAny(t *testing.T) {
	n := numbers(6)
	for range 4000 {
		d := pick(&n, []func() *disk.Disk{unsynced, func() *disk.Disk { return diskOf("wal-1", framed(a)) }, func() *disk.Disk { return down("wal-1", framed(a)) }})()
		d.Arm(n.below(4))
		f := replay.Found{Good: n.below(30) - 1, Torn: n.below(2) == 0, Entries: n.entries(2)}
		for range n.below(4) {
			f.Logs = append(f.Logs, n.below(6)-1)
		}
		want := d.Copy()
		mends(t, "any", d, f, mendByWords(want, f))
	}
}
