package text

import (
	"errors"
	"strconv"

	"plunder/api"
)

// fault is why a text is no source, and where.
type fault struct{ spot api.Spot }

func (f fault) Error() string {
	return "error " + strconv.Itoa(int(f.spot.Err)) + " at byte " + strconv.Itoa(f.spot.At)
}

// gaveUp is what a reader panics with, however deep it has come: a fault, and the word that the reader had come to.
type gaveUp struct {
	word string
	err  error
}

func (g gaveUp) Error() string { return strconv.Quote(g.word) + ": " + g.err.Error() }

func (g gaveUp) Unwrap() error { return g.err }

// caught tells where somebody gave up. Any other panic is a mistake of this package, and must not pass for an answer.
func caught(thrown any) api.Spot {
	if thrown == nil {
		return api.Spot{}
	}
	var f fault
	if err, ok := thrown.(error); ok && errors.As(err, &f) {
		return f.spot
	}
	panic(thrown)
}
