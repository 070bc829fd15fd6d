package cutter

import (
	"errors"
	"testing"
)

// TestStatesAreFoundAgain: a text that comes round makes no new states.
func TestStatesAreFoundAgain(t *testing.T) {
	b, err := readBook("A=a;B=b;A.*B!;A...!;B*A+|")
	if err != nil {
		t.Fatal(err)
	}
	m := newMachine(b.rules)
	round := b.split("aabbaxbab", 0, 9)
	m.cuts([][]char{round}, 9)
	m.cuts([][]char{round, round}, 18)
	made := len(m.states)
	for range 5 {
		m.cuts([][]char{round, round}, 18)
	}
	if len(m.states) != made || len(m.found) != made-1 {
		t.Errorf("%d states at first, then %d, in the map %d", made, len(m.states), len(m.found))
	}
	for met, number := range m.found {
		if m.states[number].met != met {
			t.Errorf("state %d has met %b, not %b", number, m.states[number].met, met)
		}
	}
}

// TestBrokenIsAskedForByItsType: also where it is wrapped.
func TestBrokenIsAskedForByItsType(t *testing.T) {
	_, err := readBook("A=a;A!B")
	if no, at := told(errors.Join(errors.New("file"), err)); no != ErrName || at != 6 {
		t.Errorf("told %d %d, want %d 6", no, at, ErrName)
	}
	if no, at := told(nil); no != OK || at != 0 {
		t.Errorf("told %d %d of no error", no, at)
	}
	if got := err.Error(); got != "error 5 at byte 6" {
		t.Errorf("Error() = %q", got)
	}
}
