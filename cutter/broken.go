package cutter

import (
	"errors"
	"strconv"
)

// broken is why a file is refused, and where.
type broken struct {
	no Errno
	at int
}

func (b broken) Error() string {
	return "error " + strconv.Itoa(int(b.no)) + " at byte " + strconv.Itoa(b.at)
}

// told turns what reading a file gave into the answer of a call.
func told(err error) (Errno, int) {
	var b broken
	if errors.As(err, &b) {
		return b.no, b.at
	}
	return OK, 0
}
