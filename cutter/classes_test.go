package cutter_test

import (
	"strings"
	"testing"

	"cutter/cutter"
)

func TestClasses(t *testing.T) {
	for _, c := range []struct{ file, text, want string }{
		{"A=a-z0-9;S= ;A!A;S*!S;S|;!", "two  words.", "AAASSAAAAA_"},
		{"", "", ""}, {"", "aé€😀", "____"}, {"A=a", "", ""}, {"!", "ab", "__"},
		{"A=b-d", "abcde", "_AAA_"}, {"A=c-cx;B=a", "abcx", "B_AA"}, {"B=a;A=b", "ab", "BA"},
		// Of one to four bytes, and the edges of each width.
		{"A=\x00-\x7f;B=\u0080-\u07ff;C=\u0800-\uffff;D=\U00010000-\U0010ffff", "\x00\x7f\u0080\u07ff\u0800\ud7ff\ue000\uffff\U00010000\U0010ffff", "AABBCCCCDD"},
		{"A=é;B=€;C=😀", "é€😀", "ABC"},
		// What no item can name can lie within one.
		{"A= -~", ";=-!| ~\x7f", "AAAAAAA_"},
		// What is a sign in a rule is a character in an item.
		{"A=A-C;B=_.*+?", "ABC_.*+?D", "AAABBBBB_"},
	} {
		if got, no, at := cutter.Classes(c.file, c.text); got != c.want || no != cutter.OK || at != 0 {
			t.Errorf("P4: Classes(%q, %q) = %q %d %d, want %q 0 0", c.file, c.text, got, no, at, c.want)
		}
	}
}

func TestClassesOfStrayBytes(t *testing.T) {
	const all = "A=\x00-\U0010ffff" // every well-formed character, the one of decoding errors too
	for _, c := range []struct{ text, want string }{
		{"\ufffd", "A"}, {"\x80", "_"}, {"a\xffb", "A_A"}, {"\xc0\x80", "__"}, {"\xc1\xbf", "__"}, {"\xc3", "_"}, {"\xc3a", "_A"}, {"\xc3\xc3\xa9", "_A"},
		{"\xe2\x82", "__"}, {"\xe2\x82a", "__A"}, {"\xe2\x82\xac", "A"}, {"\xe0\x9f\xbf", "___"}, {"\xed\xa0\x80", "___"}, {"\xed\x9f\xbf", "A"},
		{"\xf0\x9f\x98", "___"}, {"\xf0\x8f\xbf\xbf", "____"}, {"\xf4\x90\x80\x80", "____"}, {"\xf4\x8f\xbf\xbf", "A"}, {"\xf5\x80\x80\x80", "____"}, {"\xa9é", "_A"},
	} {
		if got, no, at := cutter.Classes(all, c.text); got != c.want || no != cutter.OK || at != 0 {
			t.Errorf("P4: Classes(%q, %q) = %q %d %d, want %q 0 0", all, c.text, got, no, at, c.want)
		}
	}
}

// brokenFiles has a file for each error of Check.
var brokenFiles = []checkCase{
	{strings.Repeat(";", 201), cutter.ErrLong, 0},
	{"A=a;A", cutter.ErrText, 5},
	{"A=\xe2\x82", cutter.ErrText, 4},
	{"A=a;A=b", cutter.ErrTwice, 4},
	{"A=ab-a", cutter.ErrOrder, 3},
	{"A=a;A!B", cutter.ErrName, 6},
}

func TestClassesOfBrokenFiles(t *testing.T) {
	for _, c := range brokenFiles {
		for _, text := range []string{"", "abc"} {
			if got, no, at := cutter.Classes(c.file, text); got != "" || no != c.no || at != c.at {
				t.Errorf("P4: Classes(%.80q, %q) = %q %d %d, want \"\" %d %d", c.file, text, got, no, at, c.no, c.at)
			}
		}
	}
}
