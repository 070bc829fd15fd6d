package cutter

import "unicode/utf8"

// char is a character of a text, with all that can be told of it whatever
// stands ahead of it.
type char struct {
	at     int // where it begins
	symbol int
	stand  ruleSet // those whose right side stands from here on
}

// split takes the characters out of a text that begin at one place or behind
// it, and ahead of another one.
func (b *book) split(t string, from, to int) []char {
	chars := make([]char, 0, utf8.RuneCountInString(t[from:to]))
	at := beginning(t, from)
	symbol, width := b.next(t[at:])
	for at < to {
		behind, itsWidth := b.next(t[at+width:])
		chars = append(chars, char{at, symbol, b.right[0][symbol] & b.right[1][behind]})
		at, symbol, width = at+width, behind, itsWidth
	}
	return chars
}

// next tells what a text begins with, and how wide that is.
func (b *book) next(t string) (symbol, width int) {
	if t == "" {
		return end, 0
	}
	c, width := utf8.DecodeRuneInString(t)
	if isStray(c, width) {
		return none, width
	}
	return b.symbol(c), width
}

// beginning is the first place, from that one on, where a character begins. A
// byte that can begin an encoding is never within one: so the nearest one
// ahead tells, wherever the text was begun to be read.
func beginning(t string, at int) int {
	for from := at - 1; from >= 0 && from > at-utf8.UTFMax; from-- {
		if utf8.RuneStart(t[from]) {
			_, width := utf8.DecodeRuneInString(t[from:])
			return max(at, from+width)
		}
	}
	return at
}

// isStray asks for the width too, as the code point that decoding answers for
// a stray byte can also stand in a text well-formed.
func isStray(c rune, width int) bool {
	return c == utf8.RuneError && width <= 1
}
