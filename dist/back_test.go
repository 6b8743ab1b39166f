package dist_test

import (
	"strings"
	"testing"

	"cedilla/dist"
)

// P17.4: the distance is 0 of a text and itself alone, and is the same both ways.
func TestDistanceIsNoneOrBothWays(t *testing.T) {
	l := texts(small, 4)
	for _, a := range l {
		for _, b := range l {
			n := dist.Of(a, b)
			if (n == 0) != (a == b) {
				t.Fatalf("of %q, %q: %d", a, b, n)
			}
			if back := dist.Of(b, a); back != n {
				t.Fatalf("of %q, %q: %d, and back %d", a, b, n, back)
			}
			for k := -1; k < 5; k++ {
				n, is := dist.Within(a, b, k)
				if m, too := dist.Within(b, a, k); m != n || too != is {
					t.Fatalf("%q, %q within %d: %d, %v, and back %d, %v", a, b, k, n, is, m, too)
				}
			}
		}
	}
}

// P17.4: by a third text the distance is not shorter.
func TestDistanceByAThirdText(t *testing.T) {
	l := texts("ab", 5)
	far := map[[2]string]int{}
	for _, a := range l {
		for _, b := range l {
			far[[2]string{a, b}] = dist.Of(a, b)
		}
	}
	for _, a := range l {
		for _, b := range l {
			for _, by := range l {
				if far[[2]string{a, b}] > far[[2]string{a, by}]+far[[2]string{by, b}] {
					t.Fatalf("of %q, %q: %d, and shorter by %q", a, b, far[[2]string{a, b}], by)
				}
			}
		}
	}
}

// P17.4: one change more is at most one more, and at most one less.
func TestDistanceByOneChange(t *testing.T) {
	var c chance
	for range 100 {
		a, b := c.text("abc", 12), c.text("abc", 12)
		n := dist.Of(a, b)
		for _, s := range changed(b, "abc") {
			if m := dist.Of(a, s); m < n-1 || m > n+1 {
				t.Fatalf("of %q, %q: %d, but of %q: %d", a, b, n, s, m)
			}
			if m := dist.Of(b, s); m != 1 {
				t.Fatalf("of %q, %q: %d, not 1", b, s, m)
			}
		}
	}
}

// P17.4: the distance is at least by how much one is longer, and at most the longer one's bytes; both are reached.
func TestDistanceAndSizes(t *testing.T) {
	var c chance
	for range 2000 {
		a, b := c.text(small, 20), c.text(small, 20)
		n := dist.Of(a, b)
		if long, short := max(len(a), len(b)), min(len(a), len(b)); n < long-short || n > long {
			t.Fatalf("of %q, %q: %d", a, b, n)
		}
	}
	for i := range 12 {
		for j := range 12 {
			if n := dist.Of(strings.Repeat("a", i), strings.Repeat("a", j)); n != max(i, j)-min(i, j) {
				t.Errorf("of %d and %d bytes, alike: %d", i, j, n)
			}
			if n := dist.Of(strings.Repeat("a", i), strings.Repeat("b", j)); n != max(i, j) {
				t.Errorf("of %d and %d bytes, unlike: %d", i, j, n)
			}
		}
	}
}

// P17.4: a byte at both ends, in front or behind, changes nothing.
func TestDistanceWithAByteAtBothEnds(t *testing.T) {
	l := texts("ab", 4)
	for _, a := range l {
		for _, b := range l {
			n := dist.Of(a, b)
			for _, s := range []string{"a", "b", "\x00", "\xff", "ab"} {
				if m := dist.Of(s+a, s+b); m != n {
					t.Fatalf("of %q, %q: %d, but with %q in front %d", a, b, n, s, m)
				}
				if m := dist.Of(a+s, b+s); m != n {
					t.Fatalf("of %q, %q: %d, but with %q behind %d", a, b, n, s, m)
				}
			}
		}
	}
}

// P17.4: a script's letters are the four, its changes are the distance, and it does make the one of the other.
func TestScriptsMake(t *testing.T) {
	l := texts(small, 4)
	for _, a := range l {
		for _, b := range l {
			makes(t, a, b)
		}
	}
	var c chance
	for _, bytes := range []string{"ab", "abcdefgh", allBytes()} {
		for range 200 {
			a := c.text(bytes, 60)
			makes(t, a, c.text(bytes, 60))
			makes(t, a, c.near(a, bytes, c.below(9)))
		}
	}
}

// makes finds out whether the script of two texts makes the one of the other, with as few changes as can be.
func makes(t *testing.T, a, b string) {
	t.Helper()
	s := dist.Script(a, b)
	if made, is := made(s, a, b); made != b || !is {
		t.Fatalf("%q makes of %q %q (%v), not %q", s, a, made, is, b)
	}
	if n := dist.Of(a, b); changes(s) != n {
		t.Fatalf("of %q, %q: %q, but the distance is %d", a, b, s, n)
	}
}

// P17.4: Next, byte by byte, gives the distances of all beginnings of the one and of the other.
func TestNextGivesDistances(t *testing.T) {
	var c chance
	for range 60 {
		q, s := c.text(small, 20), c.text(small, 20)
		l := dist.Row(q)
		for j := 0; ; j++ {
			for i := range len(q) + 1 {
				if n := dist.Of(q[:i], s[:j]); n != l[i] {
					t.Fatalf("%q's row behind %q: %v, but the number %d is %d", q, s[:j], l, i, n)
				}
			}
			if j == len(s) {
				break
			}
			l = dist.Next(q, l, s[j])
		}
	}
}

// P1: what is answered hangs on what is handed in alone, whatever was asked ahead.
func TestSameAnswersAgain(t *testing.T) {
	var c chance
	for range 200 {
		a, b := c.text("ab", 20), c.text("ab", 20)
		n, s := dist.Of(a, b), dist.Script(a, b)
		dist.Of(b, a)
		dist.Within(a, "x", 1)
		dist.Script("x", b)
		if m, u := dist.Of(a, b), dist.Script(a, b); m != n || u != s {
			t.Fatalf("of %q, %q: %d, %q, and then %d, %q", a, b, n, s, m, u)
		}
	}
}
