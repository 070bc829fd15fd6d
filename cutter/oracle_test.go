package cutter_test

import (
	"math/rand"
	"regexp"
	"slices"
	"strings"
	"testing"
	"unicode/utf8"

	"cutter/cutter"
)

// The grammar of the document once more, in the words of another machine.
const (
	itemForm = `[^;=!|-](-[^;=!|-])?`
	ruleForm = `([A-Z_.][*+?]?){0,4}[!|][A-Z_.]{0,2}`
	lineForm = `([A-Z]=(` + itemForm + `)+|` + ruleForm + `|)`
)

var fileForm = regexp.MustCompile(`^` + lineForm + `(;` + lineForm + `){0,11}$`)

func isFile(s string) bool { return utf8.ValidString(s) && fileForm.MatchString(s) }

func isBeginning(s string) bool {
	for _, end := range []string{"", "!", "a", "\x80", "\xbf", "\x80\x80", "\xbf\x80", "\x80\x80\x80", "\xbf\x80\x80"} {
		if isFile(s + end) {
			return true
		}
	}
	return false
}

// slowCheck is P3 said slowly: every prefix, every character one by one.
func slowCheck(file string) (cutter.Errno, int) {
	if len(file) > 200 {
		return cutter.ErrLong, 0
	}
	if !isFile(file) {
		at := 0
		for at < len(file) && isBeginning(file[:at+1]) {
			at++
		}
		return cutter.ErrText, at
	}
	classOf := map[rune]byte{}
	named := map[byte]bool{}
	start := 0
	for _, line := range strings.Split(file, ";") {
		if len(line) > 1 && line[1] == '=' {
			if named[line[0]] {
				return cutter.ErrTwice, start
			}
			named[line[0]] = true
			if no, at := slowItems(line, classOf); no != cutter.OK {
				return no, start + at
			}
		} else {
			for i := range line {
				if c := line[i]; c >= 'A' && c <= 'Z' && !named[c] {
					return cutter.ErrName, start + i
				}
			}
		}
		start += len(line) + 1
	}
	return cutter.OK, 0
}

var oneItem = regexp.MustCompile(itemForm)

func slowItems(line string, classOf map[rune]byte) (cutter.Errno, int) {
	for _, place := range oneItem.FindAllStringIndex(line[2:], -1) {
		characters := []rune(line[2:][place[0]:place[1]])
		first, last := characters[0], characters[len(characters)-1]
		if first > last {
			return cutter.ErrOrder, 2 + place[0]
		}
		for c := first; c <= last; c++ {
			if classOf[c] != 0 {
				return cutter.ErrTwice, 2 + place[0]
			}
		}
		for c := first; c <= last; c++ {
			classOf[c] = line[0]
		}
	}
	return cutter.OK, 0
}

func slowSymbols(file, t string) (symbols string, places []int) {
	classOf := map[rune]byte{}
	for _, line := range strings.Split(file, ";") {
		if len(line) > 1 && line[1] == '=' {
			slowItems(line, classOf)
		}
	}
	var letters []byte
	for at := 0; at < len(t); {
		width := 1
		letter := byte('_')
		for n := 1; n <= 4 && at+n <= len(t); n++ {
			if piece := t[at : at+n]; utf8.ValidString(piece) {
				if c := classOf[[]rune(piece)[0]]; c != 0 {
					letter = c
				}
				width = n
				break
			}
		}
		letters = append(letters, letter)
		places = append(places, at)
		at += width
	}
	return string(letters), places
}

// slowCut leans on this: a side of a rule is a regular expression over the
// letters that Classes answers.
func slowCut(file, t string) []int {
	symbols, places := slowSymbols(file, t)
	if t == "" {
		return nil
	}
	type sides struct {
		left, right *regexp.Regexp
		cut         bool
	}
	var rules []sides
	for _, line := range strings.Split(file, ";") {
		if len(line) > 1 && line[1] == '=' || line == "" {
			continue
		}
		at := strings.IndexAny(line, "!|")
		rules = append(rules, sides{regexp.MustCompile(`(` + line[:at] + `)$`), regexp.MustCompile(`^(` + line[at+1:] + `)`), line[at] == '|'})
	}
	cuts := []int{0}
	for i := 1; i < len(symbols); i++ {
		cut := true
		for _, r := range rules {
			if r.left.MatchString(symbols[:i]) && r.right.MatchString(symbols[i:]) {
				cut = r.cut
				break
			}
		}
		if cut {
			cuts = append(cuts, places[i])
		}
	}
	return append(cuts, len(t))
}

func pick(r *rand.Rand, from ...string) string { return from[r.Intn(len(from))] }

func someBytes(r *rand.Rand, most int, from ...string) string {
	var b strings.Builder
	for range r.Intn(most + 1) {
		b.WriteString(pick(r, from...))
	}
	return b.String()
}

func someRule(r *rand.Rand, names []string) string {
	signs := append([]string{"_", "."}, names...)
	rule := ""
	for range r.Intn(5) {
		rule += pick(r, signs...) + pick(r, "", "", "", "*", "+", "?")
	}
	return rule + pick(r, "!", "!", "|") + someBytes(r, 2, signs...)
}

// someFile makes a file that is sound, but for a name now and then.
func someFile(r *rand.Rand) string {
	lines := []string{"A=" + pick(r, "a", "ab", "a-c", "aé"), "B=" + pick(r, "x", "x-z", "€", "\ufffd"), "C=" + pick(r, " ", "😀", "0-9")}[:r.Intn(4)]
	names := []string{"A", "B", "C"}[:len(lines)]
	for range r.Intn(13 - len(lines)) {
		lines = append(lines, someRule(r, names))
	}
	return strings.Join(lines, ";")
}

func someSoundFile(r *rand.Rand) string {
	for {
		file := someFile(r)
		if no, _ := cutter.Check(file); no == cutter.OK {
			return file
		}
	}
}

var textParts = []string{"a", "a", "b", "x", "x", "y", " ", "0", "é", "€", "\ufffd", "😀", "\x80", "\xc3", "\xe2\x82", "\xf0\x9f", "\xed\xa0\x80", ";", "\x00"}

func TestCheckAgainstSlowCheck(t *testing.T) {
	r := rand.New(rand.NewSource(1))
	parts := []string{"A", "B", "A=", "B=", "=", ";", ";", "-", "!", "|", ".", "_", "*", "+", "?", "a", "b", "c", "a-c", "é", "\xc3", "\xe2\x82", "\x80", "😀"}
	count := map[cutter.Errno]int{}
	for range 60000 {
		file := someBytes(r, 12, parts...)
		if r.Intn(2) == 0 {
			file = someFile(r)
			at := r.Intn(len(file) + 1)
			file = file[:at] + pick(r, parts...) + file[at:]
		}
		no, at := cutter.Check(file)
		count[no]++
		if wantNo, wantAt := slowCheck(file); no != wantNo || at != wantAt {
			t.Fatalf("P3: Check(%q) = %d %d, want %d %d", file, no, at, wantNo, wantAt)
		}
	}
	for _, no := range []cutter.Errno{cutter.OK, cutter.ErrText, cutter.ErrTwice, cutter.ErrOrder, cutter.ErrName} {
		if count[no] < 100 {
			t.Errorf("only %d files of answer %d were tried", count[no], no)
		}
	}
}

func TestClassesAndCutAgainstSlowCut(t *testing.T) {
	r := rand.New(rand.NewSource(2))
	tried := 0
	for range 6000 {
		file := someFile(r)
		if no, _ := cutter.Check(file); no != cutter.OK {
			continue
		}
		tried++
		text := someBytes(r, 30, textParts...)
		symbols, _ := slowSymbols(file, text)
		if got, no, at := cutter.Classes(file, text); got != symbols || no != cutter.OK || at != 0 {
			t.Fatalf("P4: Classes(%q, %q) = %q %d %d, want %q", file, text, got, no, at, symbols)
		}
		want := slowCut(file, text)
		if got, no, at := cutter.Cut(file, text); !slices.Equal(got, want) || no != cutter.OK || at != 0 {
			t.Fatalf("P5: Cut(%q, %q) = %v %d %d, want %v", file, text, got, no, at, want)
		}
	}
	if tried < 3000 {
		t.Errorf("only %d sound files were tried", tried)
	}
}
