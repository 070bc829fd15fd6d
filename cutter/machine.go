package cutter

import "math/bits"

// atoms is a set of the atoms of a file, a bit for each: there are at most
// maxLines * maxLeft of them.
type atoms uint64

// machine knows, behind each character of a text, which atoms that character
// can have met. A run may begin anywhere, so it goes over a text just once.
type machine struct {
	first  atoms          // with which a left side can begin
	behind []atoms        // for each atom, those that can come right behind it
	meets  [symbols]atoms // for each symbol, those it can meet
	sides  []side
	found  map[atoms]int // the number of the state that has met just these
	states []state
}

// side is what is asked of a rule at a place.
type side struct {
	last  atoms // with which the left side can end
	empty bool  // the left side can be no characters at all
	cut   bool
}

// state is made when a text first comes to it: those that some text could come
// to may be thousands, and most texts come to few.
type state struct {
	met  atoms
	fits ruleSet      // those whose left side can end here
	next [symbols]int // 0 is not yet known
}

// reach is what has to be known of a node to put it beside another one.
type reach struct {
	first, last atoms
	empty       bool
}

func newMachine(rules []rule) *machine {
	m := &machine{found: map[atoms]int{}, states: make([]state, 1)}
	for _, r := range rules {
		whole := m.lay(r.left)
		m.first |= whole.first
		m.sides = append(m.sides, side{whole.last, whole.empty, r.cut})
	}
	return m
}

// lay gives the signs of a tree their atoms and links those that can follow
// each other.
func (m *machine) lay(n node) reach {
	switch x := n.(type) {
	case sign:
		return m.layOne(x)
	case many:
		r := m.layAgain(x.of)
		r.empty = true
		return r
	case some:
		return m.layAgain(x.of)
	case maybe:
		r := m.lay(x.of)
		r.empty = true
		return r
	case pair:
		return m.layPair(x)
	}
	return reach{empty: true}
}

func (m *machine) layOne(s sign) reach {
	atom := atoms(1) << len(m.behind)
	m.behind = append(m.behind, 0)
	for symbol := range symbols {
		if s.stands(symbol) {
			m.meets[symbol] |= atom
		}
	}
	return reach{first: atom, last: atom}
}

func (m *machine) layAgain(n node) reach {
	r := m.lay(n)
	m.link(r.last, r.first)
	return r
}

func (m *machine) layPair(p pair) reach {
	a := m.lay(p.ahead)
	b := m.lay(p.behind)
	m.link(a.last, b.first)
	both := reach{first: a.first, last: b.last, empty: a.empty && b.empty}
	if a.empty {
		both.first |= b.first
	}
	if b.empty {
		both.last |= a.last
	}
	return both
}

func (m *machine) link(from, to atoms) {
	for atom := range m.behind {
		if from>>atom&1 == 1 {
			m.behind[atom] |= to
		}
	}
}

// start is the state ahead of a text.
func (m *machine) start() int { return m.find(0) }

// step is the state behind a character.
func (m *machine) step(from, symbol int) int {
	if to := m.states[from].next[symbol]; to != 0 {
		return to
	}
	open := m.first
	for met := m.states[from].met; met != 0; met &= met - 1 {
		open |= m.behind[bits.TrailingZeros64(uint64(met))]
	}
	to := m.find(open & m.meets[symbol])
	m.states[from].next[symbol] = to
	return to
}

func (m *machine) find(met atoms) int {
	if number, ok := m.found[met]; ok {
		return number
	}
	s := state{met: met}
	for number, rule := range m.sides {
		if rule.empty || met&rule.last != 0 {
			s.fits |= 1 << number
		}
	}
	m.found[met] = len(m.states)
	m.states = append(m.states, s)
	return m.found[met]
}

// cutsAt tells whether there is a cut at the place behind the characters that
// led to the state, where the right sides of those rules stand.
func (m *machine) cutsAt(at int, stand ruleSet) bool {
	fit := m.states[at].fits & stand
	return fit == 0 || m.sides[bits.TrailingZeros16(uint16(fit))].cut
}

// pass goes over characters from a state on. It answers the state behind them,
// and the cuts with the places ahead of them added that are some.
func (m *machine) pass(from int, chars []char, cuts []int) (int, []int) {
	for _, c := range chars {
		if c.at == 0 || m.cutsAt(from, c.stand) {
			cuts = append(cuts, c.at)
		}
		from = m.step(from, c.symbol)
	}
	return from, cuts
}

// cuts tells the cuts of a text of that many bytes, whose characters come in
// parts.
func (m *machine) cuts(parts [][]char, length int) []int {
	if length == 0 {
		return nil
	}
	var all []int
	at := m.start()
	for _, part := range parts {
		at, all = m.pass(at, part, all)
	}
	return append(all, length)
}
