package script

import (
	"slices"

	"plunder/api"
)

// list is a list on its way. One that has come to be too long keeps no numbers, and stays too long whatever comes: no count is 0.
type list struct {
	numbers []int
	long    bool
}

func (l *list) add(x int) {
	if l.allow(1) {
		l.numbers = append(l.numbers, x)
	}
}

// repeat makes the numbers from start on stand there so many times.
func (l *list) repeat(start, times int) {
	if l.long { // there is no start any more
		return
	}
	unit := l.numbers[start:]
	more := len(unit) * (times - 1)
	if !l.allow(more) {
		return
	}
	l.numbers = slices.Grow(l.numbers, more)
	for range times - 1 {
		l.numbers = append(l.numbers, unit...)
	}
}

// allow tells whether so many more may come; if not, the list is too long from now on. It is asked ahead of writing them, since they can be very many.
func (l *list) allow(more int) bool {
	if len(l.numbers)+more > api.MaxPicks {
		l.numbers, l.long = nil, true
	}
	return !l.long
}
