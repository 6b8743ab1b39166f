package cursor_test

import (
	"math"
	"slices"
	"strings"
	"testing"

	"cedilla/api"
	"cedilla/cursor"
	"cedilla/trie"
)

// P19.3: All and Many, by hand.
func TestAllByHand(t *testing.T) {
	l := []api.Entry{of("a", 1), gone("ab"), of("abc", 0), of("ad", 9), of("b", math.MaxUint32)}
	for _, c := range both(t, l...) {
		for _, some := range []struct {
			row  string
			from int
			to   int
		}{{"", 0, 5}, {"a", 0, 4}, {"ab", 1, 3}, {"abc", 2, 3}, {"ad", 3, 4}, {"b", 4, 5}} {
			x, _ := c.Seek(some.row)
			if all := x.All(); !slices.Equal(all, l[some.from:some.to]) || x.Many() != some.to-some.from {
				t.Errorf("at %s are %s, %d", some.row, told(all), x.Many())
			}
		}
		x, _ := c.Seek("ac")
		if len(x.All()) != 0 || x.Many() != 0 {
			t.Errorf("where there is none are %s, %d", told(x.All()), x.Many())
		}
	}
}

// rising finds out whether entries come by rising words, each word once.
func rising(t *testing.T, l []api.Entry) {
	t.Helper()
	for i := 1; i < len(l); i++ {
		if l[i].Word <= l[i-1].Word {
			t.Fatalf("%s comes behind %s", told(l[i].Word), told(l[i-1].Word))
		}
	}
}

// P19.3: All is by rising words, and Many its number, in whatever order words were put.
func TestAllRises(t *testing.T) {
	c := chance(5)
	for range 200 {
		l := c.list(30, 4, "ab\x00\xff\x80")
		turned := slices.Clone(l)
		slices.Reverse(turned)
		mem := trie.New(turned...)
		for _, x := range []cursor.Cursor{cursor.OfTrie(mem), cursor.OfSegment(opened(t, mem.All()...))} {
			all := x.All()
			rising(t, all)
			if !slices.Equal(all, l) || x.Many() != len(all) {
				t.Fatalf("of %s are %s, %d", told(l), told(all), x.Many())
			}
		}
	}
}

// P19.3: All at each row is what the trie, and the segment, themselves say of it.
func TestAllIsTheirs(t *testing.T) {
	for _, l := range samples() {
		mem, seg := trie.New(l...), opened(t, l...)
		for _, s := range rows(l) {
			c, _ := cursor.OfTrie(mem).Seek(s)
			d, _ := cursor.OfSegment(seg).Seek(s)
			want := mem.Under(s)
			if !slices.Equal(c.All(), want) || !slices.Equal(d.All(), seg.From(s, len(want))) {
				t.Errorf("at %s are %s and %s, not %s", told(s), told(c.All()), told(d.All()), told(want))
			}
			e, is := c.Entry()
			f, has := d.Entry()
			if x, had := mem.Get(s); e != x || f != x || is != had || has != had {
				t.Errorf("at %s is %s and %s, not %s", told(s), told(e), told(f), told(x))
			}
		}
	}
}

// many is a list of so many entries, of words of few bytes, which rise.
func many(size int) []api.Entry {
	l := make([]api.Entry, size)
	for i := range l {
		l[i] = valued(string([]byte{byte(i >> 16), byte(i >> 8), byte(i)}), uint64(i%7))
	}
	return l
}

// P19.3: as many entries as there may be.
func TestManyEntries(t *testing.T) {
	l := many(100000)
	for _, c := range both(t, l...) {
		if !slices.Equal(c.All(), l) || c.Many() != 100000 {
			t.Errorf("all are %s, %d", told(c.All()), c.Many())
		}
		for _, s := range []string{"\x00", "\x01", "\x01\x86", "\x00\xff", "\x00\x00\x00", "\x01\x86\x9f"} {
			x, is := c.Seek(s)
			if want := under(l, s); !is || !slices.Equal(x.All(), want) || x.Many() != len(want) {
				t.Errorf("at %s are %s, %d", told(s), told(x.All()), x.Many())
			}
		}
		if _, is := c.Seek("\x01\x86\xa0"); is {
			t.Error("a word more is there")
		}
	}
}

// P19.3: many words that are as long as there may be, and end alike.
func TestManyLongWords(t *testing.T) {
	var l []api.Entry
	for i := range 1000 {
		l = append(l, of(string([]byte{byte(i >> 8), byte(i)})+long(253), uint32(i)))
	}
	for _, c := range both(t, l...) {
		if !slices.Equal(c.All(), l) || c.Many() != 1000 {
			t.Errorf("all are %s, %d", told(c.All()), c.Many())
		}
	}
}

// P19.3: what is put into a trie when the cursor was made changes nothing of it, nor of those stepped from it, ahead of that or behind it; a cursor made now has it.
func TestPutLater(t *testing.T) {
	was := []api.Entry{of("a", 1), of("abc", 2), gone("b"), of("cd", 4)}
	puts := []api.Entry{of("a", 9), gone("abc"), of("b", 3), of("ab", 5), of("abd", 6), of("abcd", 7), of("c", 8), of("d", 9), of("\x00", 1), of("\xff", 2), of("", 7), of(long(255), 3)}
	for _, put := range append([][]api.Entry{puts}, single(puts)...) {
		mem := trie.New(was...)
		root := cursor.OfTrie(mem)
		ab, _ := root.Seek("ab")
		cd, _ := root.Seek("cd")
		now := trie.New(was...)
		for _, e := range put {
			mem.Put(e)
			now.Put(e)
			walksAll(t, root, was)
			walks(t, ab, was, "ab")
			isAt(t, cd, was, "cd")
			walksAll(t, cursor.OfTrie(mem), now.All())
		}
		if x, is := root.Seek("a"); !is || !slices.Equal(x.All(), was[:2]) {
			t.Errorf("behind %s at a are %s", told(put), told(x.All()))
		}
	}
}

// single is rows of one entry each.
func single(l []api.Entry) [][]api.Entry {
	var rows [][]api.Entry
	for _, e := range l {
		rows = append(rows, []api.Entry{e})
	}
	return rows
}

// P19.3: the cursor of a trie without entries has none, though there are some later.
func TestPutIntoEmpty(t *testing.T) {
	for _, mem := range []*trie.Trie{trie.New(), {}} {
		c := cursor.OfTrie(mem)
		mem.Put(of("a", 1))
		walksAll(t, c, nil)
		walksAll(t, cursor.OfTrie(mem), []api.Entry{of("a", 1)})
	}
}

// P19.3: cursors made between many puts each are of the trie as it was.
func TestPutAgainAndAgain(t *testing.T) {
	c := chance(11)
	for range 20 {
		mem := trie.New()
		var made []cursor.Cursor
		var lists [][]api.Entry
		for range 30 {
			made, lists = append(made, cursor.OfTrie(mem)), append(lists, mem.All())
			mem.Put(valued(c.text(4, "ab\xff"), values()[c.below(len(values()))]))
		}
		for i, x := range made {
			if all := x.All(); !slices.Equal(all, lists[i]) || x.Many() != len(lists[i]) {
				t.Fatalf("behind %d puts, and others, are %s, not %s", i, told(all), told(lists[i]))
			}
		}
		walksAll(t, made[15], lists[15])
	}
}

// P19.3: what is put into a copy of a trie changes nothing of the trie's cursors, nor the other way round.
func TestPutIntoCopies(t *testing.T) {
	was := []api.Entry{of("a", 1), of("ab", 2)}
	mem := trie.New(was...)
	c := mem.Copy()
	of1, of2 := cursor.OfTrie(mem), cursor.OfTrie(c)
	c.Put(of("ac", 3))
	mem.Put(gone("ab"))
	walksAll(t, of1, was)
	walksAll(t, of2, was)
	walksAll(t, cursor.OfTrie(mem), []api.Entry{of("a", 1), gone("ab")})
	walksAll(t, cursor.OfTrie(c), []api.Entry{of("a", 1), of("ab", 2), of("ac", 3)})
}

// P19.3: what is done to answered rows, of entries and of bytes, changes nothing of the cursor, nor of others, nor of other answers.
func TestAnswersAreNew(t *testing.T) {
	for _, l := range samples() {
		mem, seg := trie.New(l...), opened(t, l...)
		for _, root := range []cursor.Cursor{cursor.OfTrie(mem), cursor.OfSegment(seg)} {
			for _, s := range rows(l) {
				c, _ := root.Seek(s)
				all, other, on, more := c.All(), c.All(), c.Bytes(), c.Bytes()
				for i := range all {
					all[i] = of("changed", 9)
				}
				for i := range on {
					on[i] = 'm'
				}
				_ = append(all, of("more", 1))
				_ = append(on, "more bytes than there is room for"...)
				_ = append(on[:0], "all other ones"...)
				if !slices.Equal(other, under(l, s)) || !slices.Equal(more, behind(l, s)) {
					t.Fatalf("at %s other answers became %s, % x", told(s), told(other), more)
				}
				isAt(t, c, l, s)
			}
			walksAll(t, root, l)
		}
		if !slices.Equal(mem.All(), l) || !slices.Equal(seg.All(), l) {
			t.Fatalf("%s became %s, %s", told(l), told(mem.All()), told(seg.All()))
		}
	}
}

// P19.3: a segment's transducer, asked for and changed, changes nothing of its cursors.
func TestSegmentIsItsOwn(t *testing.T) {
	l := samples()[10]
	seg := opened(t, l...)
	c := cursor.OfSegment(seg)
	f := seg.Fst()
	for i := range f.States {
		for j := range f.States[i].Arcs {
			f.States[i].Arcs[j] = api.Arc{Byte: 'x', Out: 7}
		}
		f.States[i] = api.State{Final: true, Out: 3}
	}
	walksAll(t, c, l)
	walksAll(t, cursor.OfSegment(seg), l)
}

// P19.3: a row in which a cursor was found may be made another one behind it.
func TestSeekKeepsNothing(t *testing.T) {
	for _, root := range both(t, of("ab", 1), of("ac", 2)) {
		some := []string{"a", "b"}
		c, _ := root.Seek(some...)
		some[0], some[1] = "x", strings.Repeat("y", 3)
		isAt(t, c, []api.Entry{of("ab", 1), of("ac", 2)}, "ab")
	}
}
