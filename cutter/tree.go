package cutter

// The kinds of a sign: a class's name by its number in the alphabet, then
// these two. signLetters has the letter of each kind at the kind's number, so
// that reading and telling share one table.
const (
	names   = 26
	none    = names
	anyone  = names + 1
	symbols = names + 1 // what a character can be: of a class, or of none
	end     = symbols   // what stands behind the last character

	signLetters = "ABCDEFGHIJKLMNOPQRSTUVWXYZ_."
)

// node is a part of what stands left in a rule.
type node interface{ isNode() }

// nothing is where every left side begins, and all of one without atoms.
type nothing struct{}

// sign stands for one character.
type sign struct {
	kind int
	at   int
}

// many, some and maybe are a node with `*`, `+` and `?` behind it.
type many struct{ of node }
type some struct{ of node }
type maybe struct{ of node }

// pair is a node right ahead of another one.
type pair struct{ ahead, behind node }

func (nothing) isNode() {}
func (sign) isNode()    {}
func (many) isNode()    {}
func (some) isNode()    {}
func (maybe) isNode()   {}
func (pair) isNode()    {}

// signsOf lists the signs of a tree in the order of the file, as the first
// fault of a file is asked for.
func signsOf(n node) []sign {
	switch x := n.(type) {
	case sign:
		return []sign{x}
	case many:
		return signsOf(x.of)
	case some:
		return signsOf(x.of)
	case maybe:
		return signsOf(x.of)
	case pair:
		return append(signsOf(x.ahead), signsOf(x.behind)...)
	}
	return nil
}

// stands tells whether a character of that symbol is of the sign. The end is
// no character, so it is of none.
func (s sign) stands(symbol int) bool {
	return symbol != end && (s.kind == anyone || s.kind == symbol)
}
