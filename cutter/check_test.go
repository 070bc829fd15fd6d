package cutter_test

import (
	"strings"
	"testing"

	"cutter/cutter"
)

type checkCase struct {
	file string
	no   cutter.Errno
	at   int
}

func tryChecks(t *testing.T, cases []checkCase) {
	t.Helper()
	for _, c := range cases {
		if no, at := cutter.Check(c.file); no != c.no || at != c.at {
			t.Errorf("P3: Check(%.80q) = %d %d, want %d %d", c.file, no, at, c.no, c.at)
		}
	}
}

func TestErrnoNumbers(t *testing.T) {
	all := []cutter.Errno{cutter.OK, cutter.ErrLong, cutter.ErrText, cutter.ErrTwice, cutter.ErrOrder, cutter.ErrName, cutter.ErrPlace, cutter.ErrWorkers}
	for want, no := range all {
		if int(no) != want {
			t.Errorf("constant number %d is %d", want, no)
		}
	}
}

func TestCheckSoundFiles(t *testing.T) {
	for _, file := range []string{
		"", ";", "!", "|", "!;;|", ".!.", "._|_.", "....!..", "____|__",
		"A=a", "Z=z;Z!Z", "A=a-a", "A=abc", "A=a-c;B=d-f", "A=b;B=a",
		".*.+.?.!..", ".?!", "_*_*_*_*|",
		"A=*+?_.", "A=A;B=B;A+B*!A_", "A=\x00\n\r\t", "A=\x00-\x1f", "A= -~", "A=a-\U0010ffff",
		"A=\ud7ff-\ue000", "A=\ud7ff;B=\ue000", "A=\ufffd;A!", "A=é€😀", "A=é-€", "A=é-😀",
		strings.Repeat(";", 11),
		strings.Repeat("....!..;", 11) + "....|..",
		"A=a;" + strings.Repeat("AAAA!AA;", 10) + "AAAA!AA",
	} {
		tryChecks(t, []checkCase{{file, cutter.OK, 0}})
	}
}

func TestCheckLong(t *testing.T) {
	full := "A="
	for c := rune(0x100); len(full) < 200; c++ { // two bytes each
		full += string(c)
	}
	tryChecks(t, []checkCase{
		{full, cutter.OK, 0},
		{full + "!", cutter.ErrLong, 0},
		{full + "z", cutter.ErrLong, 0},
		{strings.Repeat("x", 200), cutter.ErrText, 0},
		{strings.Repeat("x", 201), cutter.ErrLong, 0},
		{strings.Repeat(";", 200), cutter.ErrText, 11},
		{strings.Repeat(";", 201), cutter.ErrLong, 0},
		{"A=aa" + strings.Repeat("b", 197), cutter.ErrLong, 0},
		{strings.Repeat("\xff", 1<<20), cutter.ErrLong, 0},
	})
}

func TestCheckText(t *testing.T) {
	tryChecks(t, []checkCase{
		// The form of a rule.
		{"A", cutter.ErrText, 1}, {"A;", cutter.ErrText, 1}, {"_", cutter.ErrText, 1}, {"a", cutter.ErrText, 0},
		{"*!", cutter.ErrText, 0}, {".**!", cutter.ErrText, 2}, {".+?!", cutter.ErrText, 2}, {".*", cutter.ErrText, 2},
		{".....!", cutter.ErrText, 4}, {".*.*.*.*.*!", cutter.ErrText, 8}, {"....*!", cutter.OK, 0},
		{"....*?!", cutter.ErrText, 5}, {"....", cutter.ErrText, 4},
		{"!...", cutter.ErrText, 3}, {"!..!", cutter.ErrText, 3}, {"!.*", cutter.ErrText, 2}, {"!!", cutter.ErrText, 1}, {"!|", cutter.ErrText, 1},
		{"=", cutter.ErrText, 0}, {"-", cutter.ErrText, 0}, {"_=a", cutter.ErrText, 1}, {".=a", cutter.ErrText, 1}, {"AB=a", cutter.ErrText, 2},
		{" !", cutter.ErrText, 0}, {"! ", cutter.ErrText, 1}, {"!\n", cutter.ErrText, 1}, {"é!", cutter.ErrText, 0}, {"!é", cutter.ErrText, 1}, {"\x00", cutter.ErrText, 0},
		{"A=a;@!", cutter.ErrText, 4}, {"A=a;[!", cutter.ErrText, 4}, {"!`", cutter.ErrText, 1},
		// The form of a class.
		{"A=", cutter.ErrText, 2}, {"A=;", cutter.ErrText, 2}, {"A=-", cutter.ErrText, 2}, {"A=!", cutter.ErrText, 2}, {"A=|", cutter.ErrText, 2}, {"A==", cutter.ErrText, 2},
		{"A=a-", cutter.ErrText, 4}, {"A=a-;", cutter.ErrText, 4}, {"A=a--", cutter.ErrText, 4}, {"A=a-=", cutter.ErrText, 4}, {"A=a-b-c", cutter.ErrText, 5},
		{"A=a=", cutter.ErrText, 3}, {"A=a!", cutter.ErrText, 3}, {"A=ab|", cutter.ErrText, 4}, {"a=a", cutter.ErrText, 0},
		// The lines.
		{strings.Repeat(";", 12), cutter.ErrText, 11}, {strings.Repeat("!;", 11) + "!", cutter.OK, 0},
		{strings.Repeat("!;", 12), cutter.ErrText, 23}, {strings.Repeat("!;", 11) + "A=a;", cutter.ErrText, 25},
		{strings.Repeat(";", 11) + "A=", cutter.ErrText, 13}, {strings.Repeat(";", 11) + "A;", cutter.ErrText, 12},
	})
}

func TestCheckTextWithinCharacters(t *testing.T) {
	tryChecks(t, []checkCase{
		// Begun, and only more bytes could make it a file.
		{"A=\xc3", cutter.ErrText, 3}, {"A=\xe2", cutter.ErrText, 3}, {"A=\xe2\x82", cutter.ErrText, 4},
		{"A=\xf0\x9f\x98", cutter.ErrText, 5}, {"A=a-\xe2\x82", cutter.ErrText, 6}, {"A=é\xc3", cutter.ErrText, 5},
		// Begun, and then another byte.
		{"A=\xc3a", cutter.ErrText, 3}, {"A=\xc3;", cutter.ErrText, 3}, {"A=\xe2\x82a", cutter.ErrText, 4}, {"A=\xe2\x82;!", cutter.ErrText, 4},
		{"A=\xf0\x9f\x98\xff", cutter.ErrText, 5}, {"A=\xf0\x9f\xc3\xa9", cutter.ErrText, 4}, {"A=a-\xe2a", cutter.ErrText, 5},
		// Bytes that begin nothing.
		{"A=\x80", cutter.ErrText, 2}, {"A=\xbf", cutter.ErrText, 2}, {"A=\xc0\x80", cutter.ErrText, 2}, {"A=\xc1\xbf", cutter.ErrText, 2},
		{"A=\xf5\x80\x80\x80", cutter.ErrText, 2}, {"A=\xff", cutter.ErrText, 2}, {"A=a\x80", cutter.ErrText, 3}, {"A=a-\x80", cutter.ErrText, 4},
		// Encodings longer than they need be, of no character, and above the last one.
		{"A=\xe0\x9f\xbf", cutter.ErrText, 3}, {"A=\xe0\xa0\x80", cutter.OK, 0}, {"A=\xf0\x8f\xbf\xbf", cutter.ErrText, 3}, {"A=\xf0\x90\x80\x80", cutter.OK, 0},
		{"A=\xed\x9f\xbf", cutter.OK, 0}, {"A=\xed\xa0\x80", cutter.ErrText, 3}, {"A=\xed\xbf\xbf", cutter.ErrText, 3}, {"A=\xee\x80\x80", cutter.OK, 0},
		{"A=\xf4\x8f\xbf\xbf", cutter.OK, 0}, {"A=\xf4\x90\x80\x80", cutter.ErrText, 3},
	})
}

func TestCheckTwice(t *testing.T) {
	tryChecks(t, []checkCase{
		{"A=a;A=b", cutter.ErrTwice, 4}, {"A=a;;A=a", cutter.ErrTwice, 5}, {"A=a;B=b;A=c", cutter.ErrTwice, 8},
		{"A=aa", cutter.ErrTwice, 3}, {"A=a-cb", cutter.ErrTwice, 5}, {"A=ba-c", cutter.ErrTwice, 3}, {"A=a-cc-e", cutter.ErrTwice, 5},
		{"A=a;B=a", cutter.ErrTwice, 6}, {"A=a-c;B=xb-d", cutter.ErrTwice, 9}, {"A=c-e;B=a-c", cutter.ErrTwice, 8}, {"A=c;B=a-e", cutter.ErrTwice, 6},
		{"A=c-e;B=a-bf-g", cutter.OK, 0}, {"A=éé", cutter.ErrTwice, 4}, {"A=\ud7fe-\ue001;B=\ue000", cutter.ErrTwice, 12},
		{"A= -~;B=!", cutter.ErrText, 8}, {"A= -~;B=:", cutter.ErrTwice, 8},
	})
}

func TestCheckOrder(t *testing.T) {
	tryChecks(t, []checkCase{
		{"A=b-a", cutter.ErrOrder, 2}, {"A=xb-a", cutter.ErrOrder, 3}, {"A=é-è", cutter.ErrOrder, 2}, {"A=é-z", cutter.ErrOrder, 2},
		{"A=\ue000-\ud7ff", cutter.ErrOrder, 2}, {"A=😀-\uffff", cutter.ErrOrder, 2}, {"A=\uffff-😀", cutter.OK, 0},
		{"A=a-z;B=c-b", cutter.ErrOrder, 8}, // it has no characters that could be twice
	})
}

func TestCheckName(t *testing.T) {
	tryChecks(t, []checkCase{
		{"A!", cutter.ErrName, 0}, {"!A", cutter.ErrName, 1}, {"A=a;AB!", cutter.ErrName, 5}, {"A=a;A*B?!", cutter.ErrName, 6},
		{"A=a;A+A?A*B|", cutter.ErrName, 10}, {"A=a;A!AB", cutter.ErrName, 7}, {"A=a;B!C", cutter.ErrName, 4}, {"A=a;A!B", cutter.ErrName, 6},
		{"A!;A=a", cutter.ErrName, 0}, {"A=a;A!A;B!;B=b", cutter.ErrName, 8}, {"A=Z;Z!", cutter.ErrName, 4},
	})
}

func TestCheckWhichErrorIsTold(t *testing.T) {
	tryChecks(t, []checkCase{
		// No file at all goes ahead of what a file holds, wherever it stands.
		{"B!;A=aa;A=b-a;a", cutter.ErrText, 14}, {"A=aa-", cutter.ErrText, 5}, {"A!;!!", cutter.ErrText, 4}, {"A=b-a;A", cutter.ErrText, 7},
		{"A!" + strings.Repeat(";", 12), cutter.ErrText, 13},
		// Then the first place.
		{"B!;A=aa;A=b-a", cutter.ErrName, 0}, {"A=aa;A=b-a;B!", cutter.ErrTwice, 3}, {"A=ab-a;A=b;B!", cutter.ErrOrder, 3},
		{"A=a;A=b-a", cutter.ErrTwice, 4}, {"A=a;A=a", cutter.ErrTwice, 4}, {"A=a;B=b-aa", cutter.ErrOrder, 6}, {"A=a;B=ab-a", cutter.ErrTwice, 6},
		{"A=a;B!;A=b", cutter.ErrName, 4}, {"A=a;A=b;B!", cutter.ErrTwice, 4}, {"A=b-a;B=a", cutter.ErrOrder, 2},
	})
}
