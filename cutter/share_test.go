package cutter_test

import (
	"math"
	"math/rand"
	"runtime"
	"slices"
	"strings"
	"testing"
	"time"

	"cutter/cutter"
)

type shareCase struct {
	file, text string
	places     []int
	workers    int
	want       []int
	no         cutter.Errno
	place      int
}

func tryShare(t *testing.T, cases []shareCase) {
	t.Helper()
	for _, c := range cases {
		handed := slices.Clone(c.places)
		got, no, place := cutter.Share(c.file, c.text, handed, c.workers)
		if !slices.Equal(got, c.want) || no != c.no || place != c.place {
			t.Errorf("P7: Share(%.80q, %.80q, %.40v, %d) = %v %d %d, want %v %d %d", c.file, c.text, c.places, c.workers, got, no, place, c.want, c.no, c.place)
		}
		if !slices.Equal(handed, c.places) {
			t.Errorf("P2: Share(%.80q, %.80q, %.40v, %d) has changed the list to %v", c.file, c.text, c.places, c.workers, handed)
		}
	}
}

func TestShare(t *testing.T) {
	for _, workers := range []int{1, 2, 3, 4, 63, 64} {
		tryShare(t, []shareCase{
			// No places; fewer chunks than workers and more.
			{words, "two  words", nil, workers, []int{0, 5, 10}, cutter.OK, 0},
			{words, "two  words", []int{}, workers, []int{0, 5, 10}, cutter.OK, 0},
			{words, "two  words", []int{5}, workers, []int{0, 5, 10}, cutter.OK, 0},
			{words, "two  words", upTo(9)[1:], workers, []int{0, 5, 10}, cutter.OK, 0},
			// The first place and the last one that may be.
			{words, "two  words", []int{1}, workers, []int{0, 5, 10}, cutter.OK, 0}, {words, "two  words", []int{9}, workers, []int{0, 5, 10}, cutter.OK, 0},
			{words, "two  words", []int{1, 9}, workers, []int{0, 5, 10}, cutter.OK, 0},
			// Texts that can't be dealt out.
			{words, "", nil, workers, nil, cutter.OK, 0}, {"", "", []int{}, workers, nil, cutter.OK, 0}, {"!", "a", nil, workers, []int{0, 1}, cutter.OK, 0},
			// Within characters, and all of one worker's chunk within one.
			{"", "é€😀", upTo(8)[1:], workers, []int{0, 2, 5, 9}, cutter.OK, 0}, {"", "é€😀", []int{6, 7}, workers, []int{0, 2, 5, 9}, cutter.OK, 0},
			{"!", "😀", []int{1, 2, 3}, workers, []int{0, 4}, cutter.OK, 0}, {"A=é;A!A", "aéééb", []int{2, 4, 6}, workers, []int{0, 1, 7, 8}, cutter.OK, 0},
			// Stray bytes stay what they are, though a chunk begins with them.
			{"", "\x80\x80\x80\x80\x80", upTo(4)[1:], workers, upTo(5), cutter.OK, 0}, {"", "\xe2\x82a\xac", []int{1, 2, 3}, workers, upTo(4), cutter.OK, 0},
			{"", "😀\x80", []int{4}, workers, []int{0, 4, 5}, cutter.OK, 0}, {"", "\xed\xa0\x80", []int{1, 2}, workers, upTo(3), cutter.OK, 0},
			{"", "\xf0\x9f\x98é", []int{2, 3, 4}, workers, []int{0, 1, 2, 3, 5}, cutter.OK, 0},
			// A left side that reaches over chunks.
			{"A=a;A.*|;!", "axxxxxx", upTo(6)[1:], workers, upTo(7), cutter.OK, 0}, {"....|;!", "abcdef", upTo(5)[1:], workers, []int{0, 4, 5, 6}, cutter.OK, 0},
			// A right side that reaches into the next chunk, and over one.
			{"A=a;B=b;!AB", "xaxab", []int{2, 4}, workers, []int{0, 1, 2, 4, 5}, cutter.OK, 0}, {"A=é;B=ß;!AB", "xéß", []int{2, 3, 4}, workers, []int{0, 3, 5}, cutter.OK, 0},
			{"!..", "abc", []int{1, 2}, workers, []int{0, 2, 3}, cutter.OK, 0},
		})
	}
}

func TestShareWrongPlaces(t *testing.T) {
	tryShare(t, []shareCase{
		{words, "abc", []int{0}, 1, nil, cutter.ErrPlace, 0}, {words, "abc", []int{-1}, 1, nil, cutter.ErrPlace, 0}, {words, "abc", []int{math.MinInt}, 1, nil, cutter.ErrPlace, 0},
		{words, "abc", []int{3}, 1, nil, cutter.ErrPlace, 0}, {words, "abc", []int{4}, 1, nil, cutter.ErrPlace, 0}, {words, "abc", []int{math.MaxInt}, 1, nil, cutter.ErrPlace, 0},
		{words, "abc", []int{0, 1}, 1, nil, cutter.ErrPlace, 0}, {words, "abc", []int{1, 3}, 1, nil, cutter.ErrPlace, 1}, {words, "abc", []int{1, 0}, 1, nil, cutter.ErrPlace, 1},
		{words, "abc", []int{1, 1}, 1, nil, cutter.ErrPlace, 1}, {words, "abc", []int{2, 1}, 1, nil, cutter.ErrPlace, 1}, {words, "abc", []int{1, 2, 2}, 1, nil, cutter.ErrPlace, 2},
		{words, "abc", []int{1, 2, 3}, 1, nil, cutter.ErrPlace, 2}, {words, "abc", []int{1, -1}, 1, nil, cutter.ErrPlace, 1},
		// The first such one, of whichever kind.
		{words, "abcd", []int{1, 9, 2, 2}, 1, nil, cutter.ErrPlace, 1}, {words, "abcd", []int{2, 2, 9}, 1, nil, cutter.ErrPlace, 1}, {words, "abcd", []int{9, 0}, 1, nil, cutter.ErrPlace, 0},
		// No place is below the length of the empty text.
		{words, "", []int{0}, 1, nil, cutter.ErrPlace, 0}, {words, "", []int{1}, 1, nil, cutter.ErrPlace, 0}, {words, "a", []int{1}, 1, nil, cutter.ErrPlace, 0},
		{words, strings.Repeat("a", 1000), append(upTo(999)[1:], 999), 64, nil, cutter.ErrPlace, 999},
	})
}

func TestShareWrongWorkers(t *testing.T) {
	for _, workers := range []int{math.MinInt, -1, 0, 65, math.MaxInt} {
		tryShare(t, []shareCase{
			{words, "abc", []int{1}, workers, nil, cutter.ErrWorkers, 0}, {words, "abc", nil, workers, nil, cutter.ErrWorkers, 0}, {words, "", nil, workers, nil, cutter.ErrWorkers, 0},
			// A wrong place goes ahead of it.
			{words, "abc", []int{1, 1}, workers, nil, cutter.ErrPlace, 1}, {words, "", []int{0}, workers, nil, cutter.ErrPlace, 0},
		})
	}
}

// TestShareOfBrokenFiles: the file's error is told ahead of all others.
func TestShareOfBrokenFiles(t *testing.T) {
	for _, c := range brokenFiles {
		for _, workers := range []int{0, 1, 64, 65} {
			tryShare(t, []shareCase{
				{c.file, "abc", []int{1}, workers, nil, c.no, c.at}, {c.file, "abc", []int{1, 1}, workers, nil, c.no, c.at}, {c.file, "", nil, workers, nil, c.no, c.at},
			})
		}
	}
}

// somePlaces picks places at which a text of that length may be dealt out.
func somePlaces(r *rand.Rand, length int) []int {
	var places []int
	often := 1 + r.Intn(5)
	for at := 1; at < length; at++ {
		if r.Intn(often) == 0 {
			places = append(places, at)
		}
	}
	return places
}

func TestShareIsCut(t *testing.T) {
	r := rand.New(rand.NewSource(6))
	for range 3000 {
		file, text := someSoundFile(r), someBytes(r, 20, textParts...)
		want := slowCut(file, text)
		for range 4 {
			tryShare(t, []shareCase{{file, text, somePlaces(r, len(text)), 1 + r.Intn(64), want, cutter.OK, 0}})
		}
		if t.Failed() {
			return
		}
	}
}

// TestShareAtAllPlaces deals a text out in every way there is.
func TestShareAtAllPlaces(t *testing.T) {
	const text = "aé€\xe2\x82a😀"
	for _, file := range []string{"A=a;B=é€;A!B;B+A|;A.*!_;!A", "A=€-😀;.A?_*!A;_|.", "...!", "!.."} {
		want, no, _ := cutter.Cut(file, text)
		if no != cutter.OK {
			t.Fatalf("Cut(%q) tells error %d", file, no)
		}
		for set := range 1 << (len(text) - 1) {
			var places []int
			for at := 1; at < len(text); at++ {
				if set>>(at-1)&1 == 1 {
					places = append(places, at)
				}
			}
			tryShare(t, []shareCase{{file, text, places, 1 + set%7, want, cutter.OK, 0}})
		}
	}
}

// TestShareAgainAndAgain: in whatever order the chunks come back.
func TestShareAgainAndAgain(t *testing.T) {
	r := rand.New(rand.NewSource(7))
	text := strings.Repeat("two  wörds, 😀😀 \xe2\x82 and more. ", 100)
	const file = "A=a-zö;S= ;E=😀;A+!A;S*!S;A.*E|E;S|;!"
	want := slowCut(file, text[:300])
	if got, _, _ := cutter.Share(file, text[:300], []int{100, 200}, 3); !slices.Equal(got, want) {
		t.Fatalf("P7: Share = %v, want %v", got, want)
	}
	want, _, _ = cutter.Cut(file, text)
	for range 200 {
		tryShare(t, []shareCase{{file, text, somePlaces(r, len(text)), 1 + r.Intn(64), want, cutter.OK, 0}})
	}
}

// TestShareLeavesNoGoroutine is for the ways: all have ended.
func TestShareLeavesNoGoroutine(t *testing.T) {
	before := runtime.NumGoroutine()
	for range 300 {
		cutter.Share("", strings.Repeat("ab", 50), upTo(99)[1:], 64)
		cutter.Share("", "ab", []int{2}, 64)
		cutter.Share("", "ab", []int{1}, 65)
	}
	// One that has just done its last is counted for a moment longer.
	for range 3000 {
		if runtime.NumGoroutine() <= before {
			return
		}
		time.Sleep(time.Millisecond)
	}
	t.Errorf("%d goroutines ahead of the calls, %d behind them", before, runtime.NumGoroutine())
}

// TestShareLongTexts is for P1: as many chunks as there are bytes.
func TestShareLongTexts(t *testing.T) {
	text := strings.Repeat("ab é€ ", 1<<15)
	want, _, _ := cutter.Cut(words, text)
	for _, places := range [][]int{nil, upTo(len(text) - 1)[1:], {1 << 10, 1 << 15}} {
		for _, workers := range []int{1, 64} {
			if got, no, at := cutter.Share(words, text, places, workers); !slices.Equal(got, want) || no != cutter.OK || at != 0 {
				t.Errorf("P7: Share of a long text at %d places by %d workers: %d cuts, error %d at %d, want %d cuts", len(places), workers, len(got), no, at, len(want))
			}
		}
	}
}
