package cutter

import (
	"strings"
	"unicode/utf8"
)

const (
	maxFile  = 200
	maxLines = 12
	maxLeft  = 4
	maxRight = 2
)

// line is what a line that is not empty holds: a class or a rule.
type line interface{ isLine() }

type class struct {
	kind  int
	at    int
	items []item
}

type item struct {
	first, last rune
	kind        int
	at          int
}

type rule struct {
	left  node
	cut   bool
	right []sign
}

func (class) isLine() {}
func (rule) isLine()  {}

// reader goes over the text of a file and stops at the first byte that no
// file can have there.
type reader struct {
	text string
	at   int
}

// readLines reads the form of a file alone: what its names and characters
// mean is asked only of a text that is a file as a whole.
func readLines(text string) ([]line, error) {
	r := &reader{text: text}
	var lines []line
	for number := 1; ; number++ {
		if !r.lineEnds() {
			l, err := r.line()
			if err != nil {
				return nil, err
			}
			lines = append(lines, l)
		}
		if r.at == len(text) {
			return lines, nil
		}
		if !r.lineEnds() || number == maxLines {
			return nil, r.fault()
		}
		r.at++
	}
}

func (r *reader) fault() error { return broken{ErrText, r.at} }

func (r *reader) lineEnds() bool {
	return r.at == len(r.text) || r.text[r.at] == ';'
}

// take goes past the next byte if it is among those, and tells which it was,
// from 0 on; else it answers -1.
func (r *reader) take(among string) int {
	if r.at == len(r.text) {
		return -1
	}
	which := strings.IndexByte(among, r.text[r.at])
	if which >= 0 {
		r.at++
	}
	return which
}

func (r *reader) line() (line, error) {
	at := r.at
	kind := r.take(signLetters[:names])
	if kind >= 0 && r.take("=") >= 0 {
		return r.class(kind, at)
	}
	r.at = at
	return r.rule()
}

func (r *reader) class(kind, at int) (line, error) {
	c := class{kind: kind, at: at}
	for len(c.items) == 0 || !r.lineEnds() {
		i, err := r.item(kind)
		if err != nil {
			return nil, err
		}
		c.items = append(c.items, i)
	}
	return c, nil
}

func (r *reader) item(kind int) (item, error) {
	at := r.at
	first, err := r.character()
	if err != nil {
		return item{}, err
	}
	last := first
	if r.take("-") >= 0 {
		last, err = r.character()
		if err != nil {
			return item{}, err
		}
	}
	return item{first, last, kind, at}, nil
}

func (r *reader) character() (rune, error) {
	rest := r.text[r.at:]
	c, width := utf8.DecodeRuneInString(rest)
	if isStray(c, width) || strings.ContainsRune(";=-!|", c) {
		r.at += begun(rest)
		return 0, r.fault()
	}
	r.at += width
	return c, nil
}

// begun counts the bytes at the beginning of s that more bytes could still
// make a well-formed encoding: the fault is the byte behind them.
func begun(s string) int {
	n := 0
	for n < len(s) && !utf8.FullRuneInString(s[:n+1]) {
		n++
	}
	return n
}

func (r *reader) rule() (line, error) {
	left := r.left()
	verdict := r.take("!|")
	if verdict < 0 {
		return nil, r.fault()
	}
	return rule{left: left, cut: verdict == 1, right: r.right()}, nil
}

func (r *reader) left() node {
	var left node = nothing{}
	for range maxLeft {
		s, ok := r.sign()
		if !ok {
			break
		}
		left = pair{left, r.atom(s)}
	}
	return left
}

func (r *reader) atom(s sign) node {
	switch r.take("*+?") {
	case 0:
		return many{s}
	case 1:
		return some{s}
	case 2:
		return maybe{s}
	}
	return s
}

func (r *reader) right() []sign {
	var right []sign
	for range maxRight {
		s, ok := r.sign()
		if !ok {
			break
		}
		right = append(right, s)
	}
	return right
}

func (r *reader) sign() (sign, bool) {
	at := r.at
	kind := r.take(signLetters)
	return sign{kind, at}, kind >= 0
}
