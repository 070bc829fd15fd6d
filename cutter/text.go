package cutter

import "unicode/utf8"

// char is a character of a text: where it begins, and its class.
type char struct {
	at     int
	symbol int
}

// split takes a text apart into its characters.
func (b *book) split(t string) []char {
	chars := make([]char, 0, utf8.RuneCountInString(t))
	for at := 0; at < len(t); {
		c, width := utf8.DecodeRuneInString(t[at:])
		symbol := none
		if !isStray(c, width) {
			symbol = b.symbol(c)
		}
		chars = append(chars, char{at, symbol})
		at += width
	}
	return chars
}

// isStray asks for the width too, as the code point that decoding answers for
// a stray byte can also stand in a text well-formed.
func isStray(c rune, width int) bool {
	return c == utf8.RuneError && width <= 1
}
