package script

import (
	"slices"

	"plunder/api"
)

// The rule by which a seeded number comes of the one ahead of it.
const (
	factor  = 6543210987654321773
	summand = 1234567890123456789
	dropped = 33 // the low bits of it, which look least drawn
)

// Rand is what is drawn from.
type Rand interface {
	Draw() int
}

// Drawer hands out draws. What changes is its state alone, which next leaves to it: so a copy of it goes on by itself.
type Drawer struct {
	state int64
	next  func(state int64) (draw int, behind int64)
}

// List makes a drawer over a list: 0 behind its end.
func List(draws []int) *Drawer {
	draws = slices.Clone(draws)
	return &Drawer{next: func(at int64) (int, int64) {
		if at == int64(len(draws)) {
			return 0, at
		}
		return draws[at], at + 1
	}}
}

// Loop makes a drawer over a list that begins anew behind its end.
func Loop(draws []int) *Drawer {
	if len(draws) == 0 {
		return List(nil)
	}
	draws = slices.Clone(draws)
	return &Drawer{next: func(at int64) (int, int64) {
		return draws[at], (at + 1) % int64(len(draws))
	}}
}

// Seeded makes a drawer whose draws look drawn.
func Seeded(seed int64) *Drawer {
	return &Drawer{state: seed, next: func(x int64) (int, int64) {
		x = x*factor + summand
		return int(x >> dropped), x
	}}
}

// Draw tells the next one.
func (d *Drawer) Draw() int {
	if d == nil || d.next == nil {
		return 0
	}
	draw, behind := d.next(d.state)
	d.state = behind
	return draw
}

// Pull draws n times.
func Pull(r Rand, n int) ([]int, api.Errno) {
	switch {
	case r == nil:
		return nil, api.ErrNil
	case n < 0:
		return nil, api.ErrArg
	case n > api.MaxPicks:
		return nil, api.ErrLong
	}
	draws := make([]int, n)
	for i := range draws {
		draws[i] = r.Draw()
	}
	return draws, api.OK
}
