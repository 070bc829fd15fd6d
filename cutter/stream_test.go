package cutter_test

import (
	"math/rand"
	"runtime"
	"slices"
	"strconv"
	"strings"
	"sync"
	"testing"

	"cutter/cutter"
)

// open is for files that are sound.
func open(t *testing.T, file string) *cutter.Stream {
	t.Helper()
	s, no, at := cutter.Open(file)
	if s == nil || no != cutter.OK || at != 0 {
		t.Fatalf("P8: Open(%q) = a stream: %v, %d %d, want one, 0 0", file, s != nil, no, at)
	}
	return s
}

func TestOpen(t *testing.T) {
	for _, file := range []string{"", ";", words, "!", "|", "A=a", strings.Repeat(";", 11), "A=\x00-\U0010ffff;....!..", fullFile()} {
		s := open(t, file)
		if cuts := s.End(); len(cuts) != 0 {
			t.Errorf("P8: Open(%q), then End = %v: nothing has come yet", file, cuts)
		}
		if other := open(t, file); other == s {
			t.Errorf("P2: Open(%q) answers the same stream twice", file)
		}
	}
}

// fullFile has as many bytes as a file may have.
func fullFile() string {
	file := "A="
	for c := 'à'; len(file) < 200; c++ {
		file += string(c)
	}
	return file
}

func TestOpenOfBrokenFiles(t *testing.T) {
	more := []checkCase{
		{strings.Repeat("é", 101), cutter.ErrLong, 0}, {"A", cutter.ErrText, 1}, {"a", cutter.ErrText, 0}, {"!\xff", cutter.ErrText, 1},
		{strings.Repeat(";", 12), cutter.ErrText, 11}, {"A=aba", cutter.ErrTwice, 4}, {"A=b-a;A!B", cutter.ErrOrder, 2}, {"A!;A=a", cutter.ErrName, 0},
	}
	for _, c := range append(more, brokenFiles...) {
		if s, no, at := cutter.Open(c.file); s != nil || no != c.no || at != c.at {
			t.Errorf("P8: Open(%.80q) = a stream: %v, %d %d, want none, %d %d", c.file, s != nil, no, at, c.no, c.at)
		}
	}
}

// call is a Feed or an End, and what it is to tell.
type call struct {
	piece string
	isEnd bool
	want  []int
}

func feed(piece string, want ...int) call { return call{piece, false, want} }
func end(want ...int) call                { return call{"", true, want} }

func (c call) String() string {
	if c.isEnd {
		return "End"
	}
	return strconv.Quote(c.piece)
}

func (c call) of(s *cutter.Stream) []int {
	if c.isEnd {
		return s.End()
	}
	return s.Feed(c.piece)
}

func tryCalls(t *testing.T, file string, calls ...call) {
	t.Helper()
	s := open(t, file)
	for i, c := range calls {
		if got := c.of(s); !slices.Equal(got, c.want) {
			t.Errorf("P9: by %q, call %d of %v: %v, want %v", file, i, calls, got, c.want)
			return
		}
	}
}

func TestStream(t *testing.T) {
	tryCalls(t, words, feed("two  words", 0, 5), end(10))
	tryCalls(t, words, feed("t"), feed("wo", 0), feed(" "), feed(" "), feed("w"), feed("o", 5), feed("rds"), end(10))
	tryCalls(t, words, feed("two ", 0), end(4))
	tryCalls(t, "A=a;A!", feed("aba", 0), feed("b", 2), feed("b"), end(4, 5))
	tryCalls(t, "A=é;B=€;A!B", feed("é€", 0), feed("ßé", 5), feed("é€", 7, 9), end(14))
	// A left side that reaches over pieces.
	tryCalls(t, "A=a;A.*!", feed("xyzab", 0, 1, 2, 3), feed("c"), feed("def"), end(9))
	tryCalls(t, "....|;!", feed("a"), feed("b", 0), feed("c"), feed("d"), feed("e"), feed("f", 4), end(5, 6))
}

// TestStreamWithoutText: no Feed at all, and Feeds of no bytes.
func TestStreamWithoutText(t *testing.T) {
	for _, file := range []string{"", "!", "|", words} {
		tryCalls(t, file, end())
		tryCalls(t, file, end(), end(), end())
		tryCalls(t, file, feed(""), end())
		tryCalls(t, file, feed(""), feed(""), end(), feed(""), end(), end())
	}
	tryCalls(t, "", feed(""), feed("a"), feed(""), feed("b", 0), feed(""), feed("c", 1), feed(""), end(2, 3))
	tryCalls(t, "!", feed(""), feed("a"), feed(""), feed("b", 0), feed(""), feed("c"), feed(""), end(3))
	tryCalls(t, "", feed("a\xe2"), feed(""), feed("\x82"), feed(""), feed("\xac", 0), feed(""), end(1, 4))
}

// TestStreamTwoBehind: a cut is told when the second character behind it is
// settled, though the rule that decides asks for fewer, or for none.
func TestStreamTwoBehind(t *testing.T) {
	for _, file := range []string{"", "|", "|.", "|..", ".|", "....|..;|"} {
		tryCalls(t, file, feed("a"), feed("b", 0), feed("c", 1), feed("d", 2), end(3, 4))
		tryCalls(t, file, feed("ab", 0), feed("cd", 1, 2), end(3, 4))
		tryCalls(t, file, feed("abc", 0, 1), end(2, 3))
	}
	// The cut at 0, as every other one.
	for _, file := range []string{"", "!"} {
		tryCalls(t, file, feed("a"), end(0, 1))
		tryCalls(t, file, feed("é"), feed("\x80", 0))
		tryCalls(t, file, feed("a"), feed("\xc3"), feed("\xa9", 0))
	}
	// The end of a text is no cut of a longer one.
	tryCalls(t, "!", feed("ab", 0), feed("cd"), feed("ef"), end(6))
	// What a right side asks for comes later, or not at all.
	tryCalls(t, "A=a;!AA", feed("xa", 0), feed("a"), feed("a"), feed("x", 3), end(4, 5))
	tryCalls(t, "A=a;!AA", feed("xa", 0), end(1, 2))
	tryCalls(t, "!..", feed("ab", 0), feed("c"), feed("d"), end(3, 4))
	tryCalls(t, "A=€;!.A", feed("ab\xe2", 0), feed("\x82"), feed("\xac"), end(2, 5))
	tryCalls(t, "A=€;!.A", feed("ab\xe2", 0), feed("\x82"), feed("c", 1, 2, 3), end(4, 5))
}

// TestStreamUnfinished: bytes that may still become a character.
func TestStreamUnfinished(t *testing.T) {
	// They become one.
	tryCalls(t, "", feed("aé", 0), feed("\xe2"), feed("\x82"), feed("\xac", 1), end(3, 6))
	tryCalls(t, "", feed("\xf0"), feed("\x9f"), feed("\x98"), feed("\x80"), feed("a", 0), end(4, 5))
	tryCalls(t, "", feed("a\xf0\x9f"), feed("\x98\x80b", 0, 1), end(5, 6))
	// They become stray by what follows, which may be settled or not.
	tryCalls(t, "", feed("a\xe2\x82"), feed("b", 0, 1, 2), end(3, 4))
	tryCalls(t, "", feed("\xe2"), feed("\xe2"), feed("\x82"), feed("\xac", 0), end(1, 4))
	tryCalls(t, "", feed("\xf0\x9f"), feed("\xc3", 0), feed("\xa9", 1), end(2, 4))
	tryCalls(t, "", feed("\xf0"), feed("\x80", 0), end(1, 2))
	tryCalls(t, "", feed("\xe2\x82"), feed("\xf0\x9f\x98", 0), feed("\xff", 1, 2, 3, 4), end(5, 6))
	// They become stray by the end.
	tryCalls(t, "", feed("\xc3"), end(0, 1))
	tryCalls(t, "", feed("a\xf0\x9f\x98"), end(0, 1, 2, 3, 4))
	tryCalls(t, "_!_", feed("ab\xf0\x9f", 0), feed("\x98"), end(5))
	for _, begun := range []string{
		"\xc2", "\xdf", "\xe0", "\xe1", "\xed", "\xef", "\xf0", "\xf1", "\xf4", "\xe0\xa0", "\xe0\xbf", "\xed\x80", "\xed\x9f", "\xee\x80", "\xef\xbf",
		"\xf0\x90", "\xf0\xbf", "\xf3\x80", "\xf4\x80", "\xf4\x8f", "\xf0\x90\x80", "\xf4\x8f\xbf",
	} {
		tryCalls(t, "", feed("a"+begun), end(upTo(len(begun)+1)...))
		tryCalls(t, "", feed("a"+begun), feed("b", upTo(len(begun))...))
	}
	// Bytes with which no encoding begins are settled as they come.
	for _, stray := range []string{"\x80", "\xbf", "\xc0", "\xc1", "\xf5", "\xfe", "\xff"} {
		tryCalls(t, "", feed(stray), feed(stray, 0), feed(stray, 1), end(2, 3))
		tryCalls(t, "", feed("a"+stray, 0), end(1, 2))
	}
	for _, stray := range []string{"\xe0\x80", "\xe0\x9f", "\xed\xa0", "\xed\xbf", "\xf0\x80", "\xf0\x8f", "\xf4\x90", "\xf4\xbf", "\xf5\x80", "\xc0\x80"} {
		tryCalls(t, "", feed(stray, 0), feed("a", 1), end(2, 3))
		tryCalls(t, "", feed(stray[:1]), feed(stray[1:], 0), end(1, 2))
	}
}

// TestStreamUsedAgain: nothing is left behind End of what was ahead of it.
func TestStreamUsedAgain(t *testing.T) {
	tryCalls(t, words, feed("ab", 0), end(2), end(), feed("two  words", 0, 5), end(10), end(), end())
	// What the machine has met.
	tryCalls(t, "A=a;A.*!", feed("abc", 0), end(3), feed("xyz", 0, 1), end(2, 3), feed("xa", 0), end(1, 2))
	tryCalls(t, "..!", feed("abc", 0, 1), end(3), feed("abc", 0, 1), end(3))
	// Unfinished bytes, and a character that waits for the next one.
	tryCalls(t, "", feed("\xe2\x82"), end(0, 1, 2), feed("\xac"), feed("a", 0), end(1, 2))
	tryCalls(t, "", feed("a"), end(0, 1), feed("b"), end(0, 1), feed("c"), feed("d", 0), end(1, 2))
}

// slowSettled are the places of the characters that stand whatever follows:
// here, each of what can make a beginning whole, or stray.
func slowSettled(text string) []int {
	whatever := []string{"", "a", "\xff"}
	for _, x := range []string{"\x80", "\xbf"} {
		whatever = append(whatever, x, x+"\x80", x+"\xbf", x+"\x80\x80")
	}
	_, settled := slowSymbols("", text)
	for _, more := range whatever {
		_, places := slowSymbols("", text+more)
		places = append(places, len(text+more))
		for i := range settled {
			// Where it begins, and where it ends, within the text.
			if places[i] != settled[i] || places[i+1] > len(text) || i+1 < len(settled) && places[i+1] != settled[i+1] {
				settled = settled[:i]
				break
			}
		}
	}
	return settled
}

// slowStream is P9 said slowly: every Feed asks for all cuts anew.
type slowStream struct {
	file, text string
	told       []int
}

func (s *slowStream) feed(piece string) []int {
	s.text += piece
	settled := slowSettled(s.text)
	return s.tell(func(cut int) bool {
		behind, _ := slices.BinarySearch(settled, cut)
		return len(settled)-behind >= 2
	})
}

func (s *slowStream) end() []int {
	rest := s.tell(func(int) bool { return true })
	s.text, s.told = "", nil
	return rest
}

func (s *slowStream) tell(isRipe func(cut int) bool) []int {
	var fresh []int
	for _, cut := range slowCut(s.file, s.text) {
		if isRipe(cut) && !slices.Contains(s.told, cut) {
			fresh = append(fresh, cut)
		}
	}
	s.told = append(s.told, fresh...)
	return fresh
}

// inPieces cuts a text at some places, so that a piece may be empty too.
func inPieces(r *rand.Rand, text string) []string {
	pieces := []string{}
	for _, at := range append(somePlaces(r, len(text)), len(text)) {
		done := len(strings.Join(pieces, ""))
		pieces = append(pieces, text[done:at])
		if r.Intn(5) == 0 {
			pieces = append(pieces, "")
		}
	}
	return pieces
}

func TestStreamAgainstSlowStream(t *testing.T) {
	r := rand.New(rand.NewSource(9))
	for range 500 {
		file := someSoundFile(r)
		slow := slowStream{file: file}
		var calls []call
		for range 1 + r.Intn(3) {
			text := someBytes(r, 12, textParts...)
			for _, piece := range inPieces(r, text) {
				calls = append(calls, feed(piece, slow.feed(piece)...))
			}
			calls = append(calls, end(slow.end()...))
		}
		tryCalls(t, file, calls...)
		if t.Failed() {
			return
		}
	}
}

// TestStreamIsCut: all that is told is what Cut answers.
func TestStreamIsCut(t *testing.T) {
	r := rand.New(rand.NewSource(10))
	for range 3000 {
		file, text := someSoundFile(r), someBytes(r, 30, textParts...)
		want := slowCut(file, text)
		s := open(t, file)
		for range 4 {
			var got []int
			pieces := inPieces(r, text)
			for _, piece := range pieces {
				got = append(got, s.Feed(piece)...)
			}
			got = append(got, s.End()...)
			if !slices.Equal(got, want) {
				t.Fatalf("P9: by %q, of %q: %v, want %v", file, pieces, got, want)
			}
		}
	}
}

// TestStreamOfAllBytes: three bytes of every kind that encodings tell apart.
func TestStreamOfAllBytes(t *testing.T) {
	const kinds = "\x00a\x7f\x80\x8f\x90\x9f\xa0\xbf\xc0\xc1\xc2\xdf\xe0\xe1\xec\xed\xee\xef\xf0\xf1\xf3\xf4\xf5\xff"
	for first := range len(kinds) {
		for second := range len(kinds) {
			for third := range len(kinds) {
				slow := slowStream{file: "_!_"}
				var calls []call
				for _, which := range []int{first, second, third} {
					piece := kinds[which : which+1]
					calls = append(calls, feed(piece, slow.feed(piece)...))
				}
				tryCalls(t, slow.file, append(calls, end(slow.end()...))...)
			}
		}
		if t.Failed() {
			return
		}
	}
}

// TestStreamInAllPieces lets a text come in every way there is.
func TestStreamInAllPieces(t *testing.T) {
	const text = "aé€\xe2\x82a😀"
	for _, file := range []string{"", "A=a;B=é€;A!B;B+A|;A.*!_;!A", "A=€-😀;.A?_*!A;_|.", "...!", "!.."} {
		whole := slowCut(file, text)
		slow := slowStream{file: file}
		ripe := []int{0} // how many cuts are told when so many bytes have come
		for at := range len(text) {
			slow.feed(text[at : at+1])
			ripe = append(ripe, len(slow.told))
		}
		for set := range 1 << (len(text) - 1) {
			var calls []call
			from := 0
			for to := 1; to <= len(text); to++ {
				if to == len(text) || set>>(to-1)&1 == 1 {
					calls = append(calls, feed(text[from:to], whole[ripe[from]:ripe[to]]...))
					from = to
				}
			}
			tryCalls(t, file, append(calls, end(whole[ripe[from]:]...))...)
		}
	}
}

// TestStreamsSideBySide is for P2: what a stream answers hangs on its own file
// and its own calls.
func TestStreamsSideBySide(t *testing.T) {
	r := rand.New(rand.NewSource(11))
	for range 300 {
		same := someSoundFile(r)
		files := []string{same, same, someSoundFile(r), someSoundFile(r)}
		streams := make([]*cutter.Stream, len(files))
		for i, file := range files {
			streams[i] = open(t, file)
		}
		calls := make([][]call, len(files))
		for range 60 {
			which := r.Intn(len(files))
			c := call{piece: someBytes(r, 3, textParts...), isEnd: r.Intn(8) == 0}
			c.want = slices.Clone(c.of(streams[which]))
			calls[which] = append(calls[which], c)
		}
		for i, file := range files {
			tryCalls(t, file, calls[i]...)
		}
		if t.Failed() {
			return
		}
	}
}

// TestStreamsAtTheSameTime is for P2: in many hands, a stream in each.
func TestStreamsAtTheSameTime(t *testing.T) {
	texts := []string{"two  words", "a b\xe2\x82 c", "  é€😀 "}
	var all sync.WaitGroup
	for hand := range 8 {
		all.Go(func() {
			s, _, _ := cutter.Open(words)
			for round := range 200 {
				text := texts[(hand+round)%len(texts)]
				var got []int
				for at := range len(text) {
					got = append(got, s.Feed(text[at:at+1])...)
				}
				got = append(got, s.End()...)
				if want, _, _ := cutter.Cut(words, text); !slices.Equal(got, want) {
					t.Errorf("P2: by a stream among others %q has the cuts %v, want %v", text, got, want)
					return
				}
			}
		})
	}
	all.Wait()
}

// TestStreamLists is for P2: a list that was answered is the caller's.
func TestStreamLists(t *testing.T) {
	r := rand.New(rand.NewSource(12))
	for range 300 {
		file := someSoundFile(r)
		left, spoilt := open(t, file), open(t, file)
		var lists, copies [][]int
		for range 40 {
			c := call{piece: someBytes(r, 6, textParts...), isEnd: r.Intn(6) == 0}
			list, other := c.of(left), c.of(spoilt)
			if !slices.Equal(list, other) {
				t.Fatalf("P2: by %q, where the lists were changed %q tells %v, else %v", file, c.piece, other, list)
			}
			lists, copies = append(lists, list), append(copies, slices.Clone(list))
			spoil(other)
		}
		for i := range lists {
			if !slices.Equal(lists[i], copies[i]) {
				t.Fatalf("P2: by %q the list %v has become %v", file, copies[i], lists[i])
			}
		}
	}
}

// TestLongStreams is for P1: no piece costs more than itself, however much has
// come ahead of it.
func TestLongStreams(t *testing.T) {
	text := strings.Repeat("two  wörds, 😀😀 \xe2\x82 ", 1<<15)
	for _, file := range []string{words, "!", "A=a-z;S= ;A.*S.*!;S.?A+|A;!_."} {
		want, _, _ := cutter.Cut(file, text)
		for _, width := range []int{1, 2, 7, 1000, len(text)} {
			s := open(t, file)
			var got []int
			for at := 0; at < len(text); at += width {
				got = append(got, s.Feed(text[at:min(at+width, len(text))])...)
			}
			got = append(got, s.End()...)
			if !slices.Equal(got, want) {
				t.Errorf("P9: by %q, of a long text in pieces of %d: %d cuts, want %d", file, width, len(got), len(want))
			}
		}
	}
}

// TestStreamKeepsLittle: not the pieces, and not what they have become.
func TestStreamKeepsLittle(t *testing.T) {
	const size, count = 1 << 20, 16
	streams := make([]*cutter.Stream, count)
	before := heap()
	for i := range streams {
		streams[i] = open(t, words)
		for range 1000 {
			streams[i].Feed("two  words\xe2\x82")
		}
		streams[i].Feed(strings.Repeat("ab ", size/3) + "a")
	}
	if grown := heap() - before; grown > count*size/4 {
		t.Errorf("%d streams to which %d bytes have come keep %d", count, count*size, grown)
	}
	runtime.KeepAlive(streams)
}

// heap is how many bytes are in use.
func heap() int {
	var m runtime.MemStats
	runtime.GC()
	runtime.ReadMemStats(&m)
	return int(m.HeapAlloc)
}

// TestStreamsWithoutOpen is for P1: no call panics, of what is no stream too.
func TestStreamsWithoutOpen(t *testing.T) {
	for _, s := range []*cutter.Stream{nil, {}} {
		for _, piece := range []string{"", "a", "two  words", "\xe2"} {
			if cuts := s.Feed(piece); len(cuts) != 0 {
				t.Errorf("P1: without Open, Feed(%q) = %v", piece, cuts)
			}
			if cuts := s.End(); len(cuts) != 0 {
				t.Errorf("P1: without Open, End = %v", cuts)
			}
		}
	}
}
