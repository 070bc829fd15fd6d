package cutter

import "sync"

const maxWorkers = 64

// chunk is what a worker is given: a piece of the text, and which one.
type chunk struct {
	number, from, to int
}

// part is what comes back of a chunk.
type part struct {
	number int
	chars  []char
}

// sharing is a text that is being dealt out. The workers find all that can be
// told of a character by itself and by what stands behind it. What stands
// ahead may reach over any number of chunks: so that is left to the machine,
// which goes over the parts in their order and has one owner.
type sharing struct {
	book   *book
	text   string
	places []int // where one chunk ends and the next one begins
	dealt  chan chunk
	back   chan part
}

// splitShared takes a text apart as split does, by so many workers.
func (b *book) splitShared(t string, places []int, workers int) [][]char {
	s := sharing{b, t, places, make(chan chunk), make(chan part)}
	go s.lead(workers)
	parts := make([][]char, len(places)+1)
	for p := range s.back {
		parts[p.number] = p.chars
	}
	return parts
}

// lead closes the way back only when every worker has ended, so that none is
// left when the call answers.
func (s sharing) lead(workers int) {
	var hands sync.WaitGroup
	for range min(workers, len(s.places)+1) {
		hands.Go(s.work)
	}
	s.deal()
	hands.Wait()
	close(s.back)
}

func (s sharing) deal() {
	from := 0
	for number, to := range s.places {
		s.dealt <- chunk{number, from, to}
		from = to
	}
	s.dealt <- chunk{len(s.places), from, len(s.text)}
	close(s.dealt)
}

func (s sharing) work() {
	for c := range s.dealt {
		s.back <- part{c.number, s.book.split(s.text, c.from, c.to)}
	}
}

// firstAmiss is the number of the first place at which a text of that length
// can't be dealt out, or -1.
func firstAmiss(places []int, length int) int {
	ahead := 0
	for number, at := range places {
		if at <= ahead || at >= length {
			return number
		}
		ahead = at
	}
	return -1
}
