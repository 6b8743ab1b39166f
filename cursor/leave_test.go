package cursor

import (
	"slices"
	"testing"

	"cedilla/api"
	"cedilla/segment"
	"cedilla/trie"
)

// P19.3: who goes through entries may leave them at any one, and go through them again; each comes with its word and its value.
func TestEntriesAreLeft(t *testing.T) {
	l := []api.Entry{{Word: "a", Weight: 2}, {Word: "abc", Gone: true}, {Word: "abd"}, {Word: "b", Weight: 9}}
	bytes, _ := segment.Make(l...)
	s, _ := segment.Open(bytes)
	for _, c := range []Cursor{OfTrie(trie.New(l...)), OfSegment(s)} {
		every := c.entries()
		words, values := []string{"a", "abc", "abd", "b"}, []uint64{3, 0, 1, 10}
		for n := range words {
			var got []string
			for row, value := range every {
				if value != values[len(got)] {
					t.Errorf("with %q came %d", row, value)
				}
				got = append(got, string(row))
				if len(got) == n+1 {
					break
				}
			}
			if !slices.Equal(got, words[:n+1]) {
				t.Errorf("left at %d, it told %q", n, got)
			}
		}
	}
	for row := range (Cursor{}).entries() {
		t.Errorf("of none it told %q", row)
	}
}
