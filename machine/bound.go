package machine

import (
	"math"

	"plunder/api"
)

// What the bound allows of steps (each of which takes a window at the most).
const (
	stepsOfWork   = 2  // for an instruction
	stepsOfTask   = 32 // for a task, and one more for each worker, which a wake may have to look at
	stepsOfWorker = 4
	stepsOfRun    = 32
)

// Bound tells how many picks of a fair script suffice.
func Bound(work, tasks, workers, window int) int {
	if work < 1 || tasks < 1 || window < 1 || workers < 1 || workers > api.MaxWorkers {
		return 0
	}
	steps := plus(times(stepsOfWork, work), times(workers+stepsOfTask, tasks))
	return times(window, plus(steps, stepsOfWorker*workers+stepsOfRun))
}

// plus and times are of numbers from 1 on. What is too great for an int stays the greatest int, whatever is added to it or multiplied with it.

func plus(x, y int) int { return x + min(y, math.MaxInt-x) }

func times(x, y int) int {
	if x > math.MaxInt/y {
		return math.MaxInt
	}
	return x * y
}
