package cutter

import (
	"cmp"
	"slices"
)

// ruleSet is a set of the rules of a file, a bit for each: there are at most
// maxLines of them.
type ruleSet uint16

// book is what a file means: its classes and its rules. Nothing changes it
// once it is read, so that many hands can use it at the same time.
type book struct {
	named [names]bool
	items []item
	rules []rule
	// For the first character behind a place and for the second one: the
	// rules on whose right side it can stand there.
	right [maxRight][symbols + 1]ruleSet
}

func readBook(file string) (*book, error) {
	if len(file) > maxFile {
		return nil, broken{ErrLong, 0}
	}
	lines, err := readLines(file)
	if err != nil {
		return nil, err
	}
	b := &book{}
	for _, l := range lines {
		if err := b.add(l); err != nil {
			return nil, err
		}
	}
	// No two items share a character, so that in this order a search by
	// halves finds the one that has it.
	slices.SortFunc(b.items, func(x, y item) int { return cmp.Compare(x.first, y.first) })
	return b, nil
}

func (b *book) add(l line) error {
	switch x := l.(type) {
	case class:
		return b.addClass(x)
	case rule:
		return b.addRule(x)
	}
	return nil
}

func (b *book) addClass(c class) error {
	if b.named[c.kind] {
		return broken{ErrTwice, c.at}
	}
	b.named[c.kind] = true
	for _, i := range c.items {
		if i.first > i.last {
			return broken{ErrOrder, i.at}
		}
		if slices.ContainsFunc(b.items, i.meets) {
			return broken{ErrTwice, i.at}
		}
		b.items = append(b.items, i)
	}
	return nil
}

// meets tells whether two items share a code point. The greater one of their
// first ones is then among the shared ones, and it is a character: so the gap
// in the code points needs no care.
func (i item) meets(other item) bool {
	return i.first <= other.last && other.first <= i.last
}

func (b *book) addRule(r rule) error {
	for _, s := range append(signsOf(r.left), r.right...) {
		if s.kind < names && !b.named[s.kind] {
			return broken{ErrName, s.at}
		}
	}
	b.addRight(r.right, 1<<len(b.rules))
	b.rules = append(b.rules, r)
	return nil
}

func (b *book) addRight(right []sign, rule ruleSet) {
	for i := range b.right {
		for symbol := range b.right[i] {
			if i >= len(right) || right[i].stands(symbol) {
				b.right[i][symbol] |= rule
			}
		}
	}
}

// symbol tells the class of a well-formed character, or none.
func (b *book) symbol(c rune) int {
	at, _ := slices.BinarySearchFunc(b.items, c, func(i item, c rune) int { return cmp.Compare(i.last, c) })
	if at < len(b.items) && b.items[at].first <= c {
		return b.items[at].kind
	}
	return none
}
