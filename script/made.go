package script

import (
	"plunder/api"
	"plunder/ops"
)

// Turns makes picks: every worker in turn.
func Turns(workers, rounds int) ([]int, api.Errno) {
	switch {
	case !good(workers) || rounds < 0:
		return nil, api.ErrArg
	case rounds > api.MaxPicks/workers: // their product could wrap
		return nil, api.ErrLong
	}
	picks := make([]int, workers*rounds)
	for i := range picks {
		picks[i] = i % workers
	}
	return picks, api.OK
}

// Noise makes a script that looks drawn, fair for a window.
func Noise(seed int64, workers, window, length int) (api.Script, api.Errno) {
	if err := noiseFault(workers, window, length); err != api.OK {
		return api.Script{}, err
	}
	s := api.Script{Picks: make([]int, length), Draws: make([]int, length)}
	numbers := Seeded(seed)
	w := waits{workers: workers}
	for i := range length {
		s.Picks[i] = w.pick(numbers.Draw(), window)
		s.Draws[i] = numbers.Draw()
		w.name(s.Picks[i])
	}
	return s, api.OK
}

func noiseFault(workers, window, length int) api.Errno {
	switch {
	case !good(workers):
		return api.ErrArg
	case window < workers:
		return api.ErrWindow
	case length < 0:
		return api.ErrArg
	case length > api.MaxPicks:
		return api.ErrLong
	}
	return api.OK
}

// pick makes a pick of a number. Whoever has waited longest goes first as soon as all of them, one after the other, would just fit into the window.
func (w *waits) pick(number, window int) int {
	if late := w.longest(); w.of(late) >= window-w.workers {
		return late
	}
	return ops.Mod(number, w.workers)
}
