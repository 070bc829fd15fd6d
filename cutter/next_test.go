package cutter_test

import (
	"math"
	"math/rand"
	"testing"

	"cutter/cutter"
)

const words = "A=a-z0-9;S= ;A!A;S*!S;S|;!"

type nextCase struct {
	file, text string
	at         int
	want       int
	no         cutter.Errno
	place      int
}

func tryNext(t *testing.T, cases []nextCase) {
	t.Helper()
	for _, c := range cases {
		got, no, place := cutter.Next(c.file, c.text, c.at)
		if got != c.want || no != c.no || place != c.place {
			t.Errorf("P6: Next(%.80q, %.80q, %d) = %d %d %d, want %d %d %d", c.file, c.text, c.at, got, no, place, c.want, c.no, c.place)
		}
	}
}

func TestNext(t *testing.T) {
	tryNext(t, []nextCase{
		// At a cut, between two, right ahead of one.
		{words, "two  words", 0, 5, cutter.OK, 0}, {words, "two  words", 1, 5, cutter.OK, 0}, {words, "two  words", 4, 5, cutter.OK, 0},
		{words, "two  words", 5, 10, cutter.OK, 0}, {words, "two  words", 6, 10, cutter.OK, 0}, {words, "two  words", 9, 10, cutter.OK, 0},
		// A cut everywhere, and none within.
		{"", "abc", 0, 1, cutter.OK, 0}, {"", "abc", 1, 2, cutter.OK, 0}, {"", "abc", 2, 3, cutter.OK, 0}, {"!", "abc", 0, 3, cutter.OK, 0}, {"!", "abc", 2, 3, cutter.OK, 0},
		{"!", "a", 0, 1, cutter.OK, 0},
		// A place within a character.
		{"", "é€", 1, 2, cutter.OK, 0}, {"", "é€", 2, 5, cutter.OK, 0}, {"", "é€", 4, 5, cutter.OK, 0}, {"!", "😀", 3, 4, cutter.OK, 0},
		{"", "\xe2\x82a", 1, 2, cutter.OK, 0},
	})
}

func TestNextWrongPlaces(t *testing.T) {
	for _, at := range []int{-1, -10, math.MinInt, 10, 11, 1 << 40, math.MaxInt - 1, math.MaxInt} {
		tryNext(t, []nextCase{{words, "two  words", at, 0, cutter.ErrPlace, 0}})
	}
	for _, at := range []int{math.MinInt, -1, 0, 1, math.MaxInt} {
		tryNext(t, []nextCase{{words, "", at, 0, cutter.ErrPlace, 0}, {"", "", at, 0, cutter.ErrPlace, 0}})
	}
}

// TestNextOfBrokenFiles: the file's error is told ahead of the place's.
func TestNextOfBrokenFiles(t *testing.T) {
	for _, c := range brokenFiles {
		for _, at := range []int{-1, 0, 3, math.MaxInt} {
			tryNext(t, []nextCase{{c.file, "abc", at, 0, c.no, c.at}, {c.file, "", at, 0, c.no, c.at}})
		}
	}
}

func TestNextAgainstSlowCut(t *testing.T) {
	r := rand.New(rand.NewSource(5))
	for range 1000 {
		file, text := someSoundFile(r), someBytes(r, 12, textParts...)
		cuts := slowCut(file, text)
		for at := -1; at <= len(text)+1; at++ {
			want := nextCase{file: file, text: text, at: at, no: cutter.ErrPlace}
			for i := len(cuts) - 1; i >= 0 && at >= 0 && cuts[i] > at; i-- {
				want.want, want.no = cuts[i], cutter.OK
			}
			tryNext(t, []nextCase{want})
		}
		if t.Failed() {
			return
		}
	}
}
