package cutter

import "unicode/utf8"

// isOpen is false of a stream that Open didn't make: it has no file.
func (s *Stream) isOpen() bool { return s != nil && s.book != nil }

// begin makes a stream one to which nothing has come. The machine stays: it
// hangs on the file alone.
func (s *Stream) begin() {
	s.state, s.at, s.rest = s.machine.start(), 0, ""
}

// pass goes over the characters of a text that begin ahead of a place, and
// tells the cuts ahead of them. The text is what comes behind the characters
// that are done with.
func (s *Stream) pass(text string, to int) []int {
	chars := s.book.split(text, 0, to)
	for i := range chars {
		chars[i].at += s.at
	}
	var cuts []int
	s.state, cuts = s.machine.pass(s.state, chars, nil)
	s.at += to
	return cuts
}

// lastSettled is the place of the last character of a text that stands
// whatever comes behind it, or 0. So each character ahead of the place has
// another settled one behind it: and a rule asks no more than two of its right
// side.
func lastSettled(text string) int {
	last := 0
	for at := 0; utf8.FullRuneInString(text[at:]); {
		_, width := utf8.DecodeRuneInString(text[at:])
		last, at = at, at+width
	}
	return last
}
