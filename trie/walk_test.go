package trie

import (
	"slices"
	"testing"

	"cedilla/api"
)

// P12.2: who goes through nodes may leave them at any place, and go through them again; each has its row.
func TestWalkIsLeft(t *testing.T) {
	x := New(api.Entry{Word: "abc"}, api.Entry{Word: "a"}, api.Entry{Word: "ba"}, api.Entry{Word: "ad"})
	want := []string{"", "a", "ab", "abc", "ad", "b", "ba"}
	every := x.root.walk("")
	for n := range want {
		var got []string
		for row, at := range every {
			if at != x.root.down(string(row)) {
				t.Errorf("with %q it told another node", row)
			}
			got = append(got, string(row))
			if len(got) == n+1 {
				break
			}
		}
		if !slices.Equal(got, want[:n+1]) {
			t.Errorf("left at %d, it told %q", n, got)
		}
	}
	for row := range x.root.down("x").walk("x") {
		t.Errorf("of no node it told %q", row)
	}
}
