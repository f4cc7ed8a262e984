package script

import (
	"plunder/api"
	"plunder/ops"
)

// Window tells the least number of picks in a row that always name every worker; 0: there is none.
func Window(picks []int, workers int) int {
	if !good(workers) {
		return 0
	}
	window := 1 + longestWait(picks, workers)
	if window > len(picks) {
		return 0
	}
	return window
}

// Fair tells whether so many picks in a row always name every worker. No wait is below 0 or beyond the list's length, so windows out there need no look of their own.
func Fair(picks []int, workers, window int) bool {
	return good(workers) && longestWait(picks, workers) < window
}

// waits follows picks, one after the other, and knows how long each worker has waited.
type waits struct {
	workers int
	picks   int                 // how many there were
	upTo    [api.MaxWorkers]int // for each worker, how many there were up to the last one that named it
}

func (w *waits) name(worker int) {
	w.picks++
	w.upTo[worker] = w.picks
}

// of tells a worker's wait: the number of picks behind the last one that named it.
func (w *waits) of(worker int) int { return w.picks - w.upTo[worker] }

// longest tells who has waited longest, of several such the first one.
func (w *waits) longest() int {
	worker := 0
	for other := range w.workers {
		if w.of(other) > w.of(worker) {
			worker = other
		}
	}
	return worker
}

// longestWait tells the most picks in a row that do not name some worker. A wait is looked at where it ends: at the next pick of the worker, or at the list's end.
func longestWait(picks []int, workers int) int {
	w := waits{workers: workers}
	wait := 0
	for _, x := range picks {
		worker := ops.Mod(x, workers)
		wait = max(wait, w.of(worker))
		w.name(worker)
	}
	return max(wait, w.of(w.longest()))
}
