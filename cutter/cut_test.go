package cutter_test

import (
	"slices"
	"strings"
	"testing"

	"cutter/cutter"
)

func TestCut(t *testing.T) {
	for _, c := range []struct {
		file, text string
		want       []int
	}{
		{"A=a-z0-9;S= ;A!A;S*!S;S|;!", "two  words", []int{0, 5, 10}},
		// The empty text, one character, the empty file.
		{"", "", nil}, {"!", "", nil}, {"|", "", nil}, {"", "a", []int{0, 1}}, {"!", "😀", []int{0, 4}}, {"|", "\x80", []int{0, 1}},
		{"", "abc", []int{0, 1, 2, 3}}, {";;;", "abc", []int{0, 1, 2, 3}},
		// Characters of one to four bytes, and stray ones.
		{"", "aé€😀", []int{0, 1, 3, 6, 10}}, {"", "\xe2\x82a\xff", []int{0, 1, 2, 3, 4}}, {"", "\xed\xa0\x80", []int{0, 1, 2, 3}},
		{"A=\ufffd;_!_", "\ufffd\x80\xffx", []int{0, 3, 6}},
		{"_!", "\x80\xff", []int{0, 2}}, {".!.", "\x80é", []int{0, 3}},
		// Nothing on a side, or on both.
		{"!", "abc", []int{0, 3}}, {"|", "abc", []int{0, 1, 2, 3}}, {"A=a;A!", "aba", []int{0, 2, 3}}, {"A=a;!A", "aba", []int{0, 1, 3}},
		// The first rule that fits; none.
		{"A=a;A!;|", "aba", []int{0, 2, 3}}, {"|;!", "ab", []int{0, 1, 2}}, {"!;|", "ab", []int{0, 2}}, {"A=a;A|A;!", "aab", []int{0, 1, 3}}, {"A=a;A!A", "aabb", []int{0, 2, 3, 4}},
		// Times: none, one, more.
		{"A=a;B=b;AB*!.", "acabcabbc", []int{0, 2, 5, 9}},
		{"A=a;B=b;AB+!.", "acabcabbc", []int{0, 1, 2, 3, 5, 6, 9}},
		{"A=a;B=b;AB?!.", "acabcabbc", []int{0, 2, 5, 8, 9}},
		{"A=a;B=b;AB!.", "acabcabbc", []int{0, 1, 2, 3, 5, 6, 8, 9}},
		// A side of atoms that can all be nothing fits everywhere.
		{"A=a;A*A?!", "xyx", []int{0, 3}}, {"A=a;A?A*A?A*!A", "xax", []int{0, 2, 3}},
		// A run is not longer than what stands ahead of the place.
		{"..!", "abcd", []int{0, 1, 4}}, {"....!", "abcdef", []int{0, 1, 2, 3, 6}}, {"...+!", "abcd", []int{0, 1, 2, 4}},
		// The same character can be met by several atoms.
		{"A=a;A*A!", "aab", []int{0, 3}}, {"A=a;A+A+!", "aab", []int{0, 1, 3}}, {"A=a;AA?A!", "aaab", []int{0, 1, 4}}, {"A=a;.*A.?!", "xaxx", []int{0, 1, 4}},
		// From far ahead.
		{"A=a;B=b;A.*B!", "abxxbx", []int{0, 1, 3, 4, 6}}, {"A=a;A_*!A", "a" + strings.Repeat("-", 50) + "ab", append(upTo(50), 52, 53)},
		// The right side needs all its characters.
		{"!..", "abcd", []int{0, 3, 4}}, {"!.", "abcd", []int{0, 4}}, {"A=a;!A_", "xaxa", []int{0, 2, 3, 4}}, {"A=a;!_A", "axax", []int{0, 2, 3, 4}},
		// No rule speaks of the ends.
		{"!", "a", []int{0, 1}}, {".*!", "ab", []int{0, 2}},
		// Longest rules and most lines.
		{"A=a;AAAA!AA", "aaaaaaa", []int{0, 1, 2, 3, 6, 7}}, {strings.Repeat("....|..;", 11) + "!", "abcdefg", []int{0, 4, 5, 7}},
	} {
		got, no, at := cutter.Cut(c.file, c.text)
		if !slices.Equal(got, c.want) || no != cutter.OK || at != 0 {
			t.Errorf("P5: Cut(%q, %q) = %v %d %d, want %v 0 0", c.file, c.text, got, no, at, c.want)
		}
	}
}

// upTo lists the numbers from 0 to last.
func upTo(last int) []int {
	var all []int
	for n := range last + 1 {
		all = append(all, n)
	}
	return all
}

func TestCutOfBrokenFiles(t *testing.T) {
	for _, c := range brokenFiles {
		for _, text := range []string{"", "abc"} {
			if got, no, at := cutter.Cut(c.file, text); len(got) != 0 || no != c.no || at != c.at {
				t.Errorf("P5: Cut(%.80q, %q) = %v %d %d, want [] %d %d", c.file, text, got, no, at, c.no, c.at)
			}
		}
	}
}
