// Package cutter: rules that say where texts may be cut, at once, in a stream, or by many hands: see DOC.md.
package cutter

import (
	"slices"
	"strings"
)

// Errno is what a call answers: OK or the reason for a refusal.
type Errno int

const (
	OK         Errno = 0
	ErrLong    Errno = 1 // a file above its bound
	ErrText    Errno = 2 // no file
	ErrTwice   Errno = 3 // a name, or a character, of two classes
	ErrOrder   Errno = 4 // an item the wrong way round
	ErrName    Errno = 5 // no such class
	ErrPlace   Errno = 6 // a place that may not be
	ErrWorkers Errno = 7 // too few or too many workers
)

// Check tells whether a text is a file (P3).
func Check(file string) (Errno, int) {
	_, err := readBook(file)
	return told(err)
}

// Classes tells the class of each character (P4).
func Classes(file string, t string) (string, Errno, int) {
	b, err := readBook(file)
	if err != nil {
		no, at := told(err)
		return "", no, at
	}
	chars := b.split(t, 0, len(t))
	letters := make([]byte, len(chars))
	for i, c := range chars {
		letters[i] = signLetters[c.symbol]
	}
	return string(letters), OK, 0
}

// Cut tells the cuts of a text (P5).
func Cut(file string, t string) ([]int, Errno, int) {
	b, err := readBook(file)
	if err != nil {
		no, at := told(err)
		return nil, no, at
	}
	parts := [][]char{b.split(t, 0, len(t))}
	return newMachine(b.rules).cuts(parts, len(t)), OK, 0
}

// Next tells the next cut behind a place (P6).
func Next(file string, t string, at int) (int, Errno, int) {
	cuts, no, place := Cut(file, t)
	if no != OK {
		return 0, no, place
	}
	// The length is the greatest cut, or where the text is empty there is none.
	if at < 0 || at >= len(t) {
		return 0, ErrPlace, 0
	}
	which, _ := slices.BinarySearch(cuts, at+1)
	return cuts[which], OK, 0
}

// Share tells the cuts of a text that is dealt out (P7).
func Share(file string, t string, cuts []int, workers int) ([]int, Errno, int) {
	b, err := readBook(file)
	if err != nil {
		no, at := told(err)
		return nil, no, at
	}
	if amiss := firstAmiss(cuts, len(t)); amiss >= 0 {
		return nil, ErrPlace, amiss
	}
	if workers < 1 || workers > maxWorkers {
		return nil, ErrWorkers, 0
	}
	parts := b.splitShared(t, cuts, workers)
	return newMachine(b.rules).cuts(parts, len(t)), OK, 0
}

// Stream is a text that comes in pieces. Make it by Open.
type Stream struct {
	book    *book
	machine *machine
	state   int    // behind the characters that are done with
	at      int    // how many bytes those have
	rest    string // what has come behind them
}

// Open makes a stream (P8).
func Open(file string) (*Stream, Errno, int) {
	b, err := readBook(file)
	if err != nil {
		no, at := told(err)
		return nil, no, at
	}
	s := &Stream{book: b, machine: newMachine(b.rules)}
	s.begin()
	return s, OK, 0
}

// Feed takes a piece, and tells what is settled (P9).
func (s *Stream) Feed(b string) []int {
	if !s.isOpen() {
		return nil
	}
	text := s.rest + b
	to := lastSettled(text)
	cuts := s.pass(text, to)
	// A copy, so that nothing of the piece is kept but these few bytes.
	s.rest = strings.Clone(text[to:])
	return cuts
}

// End tells the rest (P9).
func (s *Stream) End() []int {
	if !s.isOpen() {
		return nil
	}
	cuts := s.pass(s.rest, len(s.rest))
	if s.at > 0 {
		cuts = append(cuts, s.at)
	}
	s.begin()
	return cuts
}
