package cutter

import (
	"math/rand"
	"slices"
	"testing"
)

// TestSplitAtAnyPlace: two chunks have together what the whole has, each
// character once, in the chunk in which it begins.
func TestSplitAtAnyPlace(t *testing.T) {
	b, err := readBook("A=a;B=é-€;C=😀;A!B;!AA;|C.;._|.;.!")
	if err != nil {
		t.Fatal(err)
	}
	r := rand.New(rand.NewSource(8))
	parts := []string{"a", "é", "€", "😀", "\x80", "\xbf", "\xc3", "\xe2", "\x82", "\xf0", "\x9f\x98", "\xed\xa0\x80", "\xff"}
	for range 20000 {
		text := ""
		for range r.Intn(9) {
			text += parts[r.Intn(len(parts))]
		}
		whole := b.split(text, 0, len(text))
		for at := range len(text) + 1 {
			left, right := b.split(text, 0, at), b.split(text, at, len(text))
			if !slices.Equal(append(left, right...), whole) || len(right) > 0 && right[0].at < at {
				t.Fatalf("split(%q) at %d: %v and %v, want %v", text, at, left, right, whole)
			}
		}
	}
}
