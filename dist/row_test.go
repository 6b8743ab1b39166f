package dist_test

import (
	"math"
	"slices"
	"strings"
	"testing"

	"cedilla/dist"
)

// follow finds out whether Next leads q's row, byte by byte, to the distances of all of its beginnings.
func follow(t *testing.T, q, bytes string) {
	t.Helper()
	l := dist.Row(q)
	for i := 0; ; i++ {
		if want := row(q, bytes[:i]); !slices.Equal(l, want) {
			t.Fatalf("%q's row behind %q: %v, not %v", q, bytes[:i], l, want)
		}
		if i == len(bytes) {
			return
		}
		l = dist.Next(q, l, bytes[i])
	}
}

// P17.2: the chapter's examples.
func TestRowExamples(t *testing.T) {
	l := dist.Row("ab")
	if !slices.Equal(l, []int{0, 1, 2}) {
		t.Error("ab:", l)
	}
	if l = dist.Next("ab", l, 'b'); !slices.Equal(l, []int{1, 1, 1}) {
		t.Error("ab behind b:", l)
	}
	if l = dist.Next("ab", l, 'b'); !slices.Equal(l, []int{2, 2, 1}) {
		t.Error("ab behind bb:", l)
	}
	if l = dist.Next("ab", l, 'x'); !slices.Equal(l, []int{3, 3, 2}) {
		t.Error("ab behind bbx:", l)
	}
}

// P17.2: a row has one number more than its text has bytes, each as great as its beginning is long.
func TestRowOfNoBytes(t *testing.T) {
	for size := range 600 {
		q := strings.Repeat("q\x00\xff", size)[:size]
		l := dist.Row(q)
		if len(l) != size+1 {
			t.Fatalf("of %d bytes: %d numbers", size, len(l))
		}
		for i, n := range l {
			if n != i {
				t.Fatalf("of %d bytes: the number %d is %d", size, i, n)
			}
		}
	}
}

// P17.2: a text of no bytes has a row too: how many bytes there were.
func TestRowOfTheEmptyText(t *testing.T) {
	l := dist.Row("")
	for i, c := range []byte("a\x00\xff\x80a") {
		if !slices.Equal(l, []int{i}) {
			t.Fatalf("behind %d bytes: %v", i, l)
		}
		l = dist.Next("", l, c)
	}
}

// P17.2, P17.4: all short texts, behind all short ones.
func TestNextOfAllShortTexts(t *testing.T) {
	for _, q := range texts(small, 4) {
		for _, s := range texts(small, 4) {
			follow(t, q, s)
		}
	}
}

// P17.2, P17.4: texts of many bytes, behind bytes that stand in them and that do not.
func TestNextOfLongerTexts(t *testing.T) {
	var c chance
	for _, bytes := range []string{"ab", small, "abcdefgh", allBytes()} {
		for range 12 {
			q := c.text(bytes, 40)
			follow(t, q, c.text(bytes, 40))
			follow(t, q, c.near(q, bytes, c.below(6)))
			follow(t, q, c.text("xyz", 10))
			follow(t, q, q)
		}
	}
}

// P17.2: each byte alone, those that stand in the text and those that do not.
func TestNextByEachByte(t *testing.T) {
	for _, q := range []string{"", "\x00", "\xff", "a", "ab", "ba", "aab\x00\x80\xff", "ä", allBytes()} {
		for _, c := range []byte(allBytes()) {
			l := dist.Next(q, dist.Row(q), c)
			if want := row(q, string([]byte{c})); !slices.Equal(l, want) {
				t.Fatalf("%q behind the byte %d: %v, not %v", q, c, l, want)
			}
		}
	}
}

// P17.2: a row that has not one number more than the text has bytes is none.
func TestNextOfWrongRows(t *testing.T) {
	for _, q := range []string{"", "a", "ab", "kitten", strings.Repeat("ab", 200)} {
		for size := range len(q) + 4 {
			l := dist.Next(q, make([]int, size), 'a')
			if size == len(q)+1 && len(l) != size {
				t.Errorf("%d bytes, a row of %d: %v", len(q), size, l)
			}
			if size != len(q)+1 && l != nil {
				t.Errorf("%d bytes, a row of %d: %v, not nil", len(q), size, l)
			}
		}
		if l := dist.Next(q, nil, 'a'); l != nil {
			t.Errorf("%d bytes, no row: %v", len(q), l)
		}
	}
	roomy := append(make([]int, 0, 8), 0, 1) // what there is room for does not count
	if l := dist.Next("ab", roomy, 'a'); l != nil {
		t.Error("ab, a row of two numbers with room:", l)
	}
	if l := dist.Next("ab", dist.Row("abc")[:3], 'b'); !slices.Equal(l, []int{1, 1, 1}) {
		t.Error("ab, a row out of a longer one:", l)
	}
}

// P17.2: the row that was handed in stays as it is, and what is answered is another one.
func TestNextLeavesTheRow(t *testing.T) {
	for _, q := range []string{"", "a", "ab", "kitten"} {
		for _, c := range []byte("abkt\x00\xff") {
			all := append(dist.Row(q), 77)
			l := all[:len(q)+1]
			next := dist.Next(q, l, c)
			want := slices.Clone(next)
			if !slices.Equal(l, dist.Row(q)) || all[len(q)+1] != 77 {
				t.Fatalf("%q behind the byte %d: the row is %v now", q, c, all)
			}
			clear(all)
			if !slices.Equal(next, want) {
				t.Fatalf("%q behind the byte %d: what was answered changes with the row", q, c)
			}
			for i := range next {
				next[i] = 99
			}
			if slices.Contains(all, 99) {
				t.Fatalf("%q behind the byte %d: the row changes with what was answered", q, c)
			}
		}
	}
	l := dist.Row("ab")
	clear(l)
	if again := dist.Row("ab"); !slices.Equal(again, []int{0, 1, 2}) {
		t.Error("the row of ab changes with one that was answered:", again)
	}
}

// P17.2: one row may lead on by many bytes, each time as if it were alone.
func TestNextOfOneRowByMany(t *testing.T) {
	q := "abab"
	l := dist.Next(q, dist.Row(q), 'b')
	a, b := dist.Next(q, l, 'a'), dist.Next(q, l, 'b')
	if !slices.Equal(a, row(q, "ba")) || !slices.Equal(b, row(q, "bb")) {
		t.Error(a, b)
	}
}

// P17.2, P1: numbers that are no distances lead on as those of rows do.
func TestNextOfAnyNumbers(t *testing.T) {
	var c chance
	for range 3000 {
		q := c.text(small, 8)
		l := make([]int, len(q)+1)
		for i := range l {
			l[i] = c.below(9) - 2
		}
		b := small[c.below(len(small))]
		if next, want := dist.Next(q, l, b), step(q, l, b); !slices.Equal(next, want) {
			t.Fatalf("%q, %v, the byte %d: %v, not %v", q, l, b, next, want)
		}
	}
	for _, n := range []int{math.MinInt, math.MaxInt, math.MaxInt - 1} {
		if l := dist.Next("aba", []int{n, n, n, n}, 'a'); len(l) != 4 {
			t.Errorf("numbers of %d: %v", n, l)
		}
	}
}
