package cutter_test

import (
	"math"
	"math/rand"
	"slices"
	"strings"
	"sync"
	"testing"

	"cutter/cutter"
)

// TestNoCallPanics is for P1: bytes of all kinds, and the form of an answer.
func TestNoCallPanics(t *testing.T) {
	r := rand.New(rand.NewSource(3))
	for range 20000 {
		file, text := someFile(r), someBytes(r, 10, textParts...)
		switch r.Intn(3) {
		case 0:
			b := make([]byte, r.Intn(230))
			r.Read(b)
			file = string(b)
		case 1:
			b := []byte(file + ";")
			b[r.Intn(len(b))] = byte(r.Intn(256))
			file = string(b)
		}
		no, at := cutter.Check(file)
		if at < 0 || at > len(file) || (no == cutter.OK || no == cutter.ErrLong) && at != 0 || no < cutter.OK || no > cutter.ErrName {
			t.Fatalf("P1: Check(%q) = %d %d", file, no, at)
		}
		letters, no1, at1 := cutter.Classes(file, text)
		cuts, no2, at2 := cutter.Cut(file, text)
		if no1 != no || no2 != no || at1 != at || at2 != at {
			t.Fatalf("P1: with %q Check answers %d %d, Classes %d %d, Cut %d %d", file, no, at, no1, at1, no2, at2)
		}
		if no != cutter.OK && (letters != "" || len(cuts) != 0) {
			t.Fatalf("P1: with %q beside error %d: %q %v", file, no, letters, cuts)
		}
		tryWildNumbers(t, r, file, text)
		tryWildPieces(t, r, file, text)
	}
}

// tryWildPieces is for P1: what Open answers, and pieces of all kinds.
func tryWildPieces(t *testing.T, r *rand.Rand, file, text string) {
	t.Helper()
	fileNo, fileAt := cutter.Check(file)
	s, no, at := cutter.Open(file)
	if no != fileNo || at != fileAt || (s == nil) != (no != cutter.OK) {
		t.Fatalf("P1: Open(%q) = a stream: %v, %d %d", file, s != nil, no, at)
	}
	if s == nil {
		return
	}
	last := -1
	for _, piece := range inPieces(r, text) {
		for _, cut := range s.Feed(piece) {
			if cut <= last || cut >= len(text) {
				t.Fatalf("P1: by %q, of %q, Feed(%q) tells %d behind %d", file, text, piece, cut, last)
			}
			last = cut
		}
	}
	if cuts := s.End(); text != "" && (len(cuts) == 0 || cuts[0] <= last || cuts[len(cuts)-1] != len(text)) {
		t.Fatalf("P1: by %q, End of %q tells %v behind %d", file, text, cuts, last)
	}
}

// tryWildNumbers is for P1: numbers and lists of all kinds.
func tryWildNumbers(t *testing.T, r *rand.Rand, file, text string) {
	t.Helper()
	wild := func() int {
		return []int{math.MinInt, -1, 0, 1, 2, len(text) / 2, len(text) - 1, len(text), len(text) + 1, 64, 65, math.MaxInt}[r.Intn(12)]
	}
	places := make([]int, r.Intn(4))
	for i := range places {
		places[i] = wild()
	}
	fileNo, fileAt := cutter.Check(file)
	at := wild()
	next, no, place := cutter.Next(file, text, at)
	if no == cutter.OK && next <= at || no != cutter.OK && next != 0 || no != cutter.ErrPlace && (no != fileNo || place != fileAt) {
		t.Fatalf("P1: Next(%q, %q, %d) = %d %d %d", file, text, at, next, no, place)
	}
	workers := wild()
	cuts, no, place := cutter.Share(file, text, places, workers)
	if no != cutter.OK && len(cuts) != 0 || no < cutter.ErrPlace && (no != fileNo || place != fileAt) || no > cutter.ErrWorkers {
		t.Fatalf("P1: Share(%q, %q, %v, %d) = %v %d %d", file, text, places, workers, cuts, no, place)
	}
}

// TestLongTexts is for P1: a long text takes no more than going over it once,
// by files that give the machine many states too.
func TestLongTexts(t *testing.T) {
	r := rand.New(rand.NewSource(4))
	b := make([]byte, 1<<20)
	for i := range b {
		b[i] = "abc"[r.Intn(3)]
	}
	text := string(b)
	for _, file := range []string{
		"!", "", ".*.*.*.*!;....|",
		"A=a;B=b;A...!;B...!;AAA.*!;AAB.*!;ABA.*!;ABB.*!;BAA.*!;BAB.*!;BBA.*!;BBB.*!",
		"A=a;B=b;C=c;A.*B.*!;B.*C.*!;C.*A.*!;B.*A.*!;C.*B.*!;A.*C.*!;A...!;B...!;C...!",
	} {
		cuts, no, _ := cutter.Cut(file, text)
		if no != cutter.OK || cuts[0] != 0 || cuts[len(cuts)-1] != len(text) {
			t.Errorf("P1: Cut(%q, a long text) = %d cuts, error %d", file, len(cuts), no)
		}
	}
	letters, no, _ := cutter.Classes("A=a;C=b;B=c", text)
	if want := strings.NewReplacer("a", "A", "b", "C", "c", "B").Replace(text); letters != want || no != cutter.OK {
		t.Errorf("P4: Classes of a long text: %d letters, error %d", len(letters), no)
	}
}

// TestAnswersHangOnArgumentsAlone is for P2: calls between, at the same time,
// and a list that the caller has changed, change nothing.
func TestAnswersHangOnArgumentsAlone(t *testing.T) {
	const file, text = "A=a-z0-9;S= ;A!A;S*!S;S|;!", "two  words"
	want := []int{0, 5, 10}
	var all sync.WaitGroup
	for range 8 {
		all.Go(func() {
			for range 200 {
				cutter.Check("A=b-a")
				cutter.Cut("A=a;A=b", text)
				cutter.Cut("A= ;!A;|", text)
				cutter.Classes("B=a-z", text)
				cutter.Share("A= ;!A;|", text, []int{2, 7}, 3)
				if other, _, _ := cutter.Open("A= ;!A;|"); len(other.Feed(text)) == 0 {
					t.Error("P9: Feed tells nothing")
				}
				if next, _, _ := cutter.Next(file, text, 0); next != 5 {
					t.Errorf("P2: Next = %d", next)
				}
				shared, _, _ := cutter.Share(file, text, []int{4, 6}, 2)
				if !slices.Equal(shared, want) {
					t.Errorf("P2: Share = %v", shared)
				}
				spoil(shared)
				stream, _, _ := cutter.Open(file)
				if told := append(stream.Feed(text), stream.End()...); !slices.Equal(told, want) {
					t.Errorf("P2: Feed and End = %v", told)
				}
				got, no, at := cutter.Cut(file, text)
				letters, _, _ := cutter.Classes(file, text)
				if !slices.Equal(got, want) || no != cutter.OK || at != 0 || letters != "AAASSAAAAA" {
					t.Errorf("P2: Cut = %v %d %d, Classes = %q", got, no, at, letters)
					return
				}
				spoil(got)
			}
		})
	}
	all.Wait()
}

// spoil does to a list that was answered what its owner may do.
func spoil(list []int) {
	list = list[:cap(list)]
	for i := range list {
		list[i] = -1
	}
}
