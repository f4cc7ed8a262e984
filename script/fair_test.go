package script_test

import (
	"math"
	"math/rand"
	"slices"
	"testing"

	"plunder/api"
	"plunder/ops"
	"plunder/script"
)

// noWorkers: numbers of workers that are not good.
var noWorkers = []int{0, -1, 65, 66, math.MinInt, math.MaxInt}

// wordsFair is 10.1 by its words, for a window and a number of workers that may be.
func wordsFair(picks []int, workers, window int) bool {
	for i := 0; i+window <= len(picks); i++ {
		for worker := range workers {
			if !slices.ContainsFunc(picks[i:i+window], func(x int) bool { return ops.Mod(x, workers) == worker }) {
				return false
			}
		}
	}
	return true
}

// wordsWindow is 10.2 by its words.
func wordsWindow(picks []int, workers int) int {
	for window := 1; window <= len(picks); window++ {
		if wordsFair(picks, workers, window) {
			return window
		}
	}
	return 0
}

// checkFair holds both calls against the words, for all windows around the list's length.
func checkFair(t *testing.T, picks []int, workers int) {
	t.Helper()
	before := slices.Clone(picks)
	if got, want := script.Window(picks, workers), wordsWindow(before, workers); got != want {
		t.Errorf("10.2: Window(%v, %d) = %d, want %d", before, workers, got, want)
	}
	for window := -2; window <= len(before)+2; window++ {
		want := window >= 1 && wordsFair(before, workers, window)
		if got := script.Fair(picks, workers, window); got != want {
			t.Errorf("10.1: Fair(%v, %d, %d) = %v", before, workers, window, got)
		}
	}
	if !slices.Equal(picks, before) {
		t.Errorf("10.1, 10.2: the picks %v were changed to %v", before, picks)
	}
}

// 10.1, 10.2: the chapter's examples.
func TestFairExamples(t *testing.T) {
	for _, c := range []struct {
		picks           []int
		workers, window int
	}{
		{[]int{0, 1, 0, 1, 1, 0}, 2, 3}, {[]int{0, 1, 2}, 3, 3}, {[]int{0, 1}, 3, 0}, {nil, 1, 0}, {[]int{}, 1, 0}, {[]int{-1, 1, 3}, 2, 0}, {[]int{5}, 1, 1},
		{[]int{0, 0, 0, 1}, 2, 4}, {[]int{1, 0, 0, 0}, 2, 4}, {[]int{0, 1, 1, 1, 0}, 2, 4}, {[]int{math.MinInt, math.MaxInt}, 2, 2},
	} {
		if got := script.Window(c.picks, c.workers); got != c.window {
			t.Errorf("10.2: Window(%v, %d) = %d, want %d", c.picks, c.workers, got, c.window)
		}
	}
	for _, c := range []struct {
		picks           []int
		workers, window int
		want            bool
	}{{[]int{0, 0}, 2, 3, true}, {[]int{0, 0}, 2, 2, false}, {[]int{5}, 1, 1, true}, {nil, 64, 1, true}, {[]int{0}, 64, math.MaxInt, true}, {[]int{0, 1}, 2, 1, false}, {[]int{0, 1}, 2, 2, true}} {
		if got := script.Fair(c.picks, c.workers, c.window); got != c.want {
			t.Errorf("10.1: Fair(%v, %d, %d) = %v", c.picks, c.workers, c.window, got)
		}
	}
}

// 10.1, 10.2: all short lists, with picks of any size.
func TestFairOfAllShortLists(t *testing.T) {
	shift := []int{0, 12, -12, math.MaxInt - 7, math.MinInt + 8} // multiples of 2, 3 and 4
	for workers, longest := range map[int]int{1: 3, 2: 8, 3: 7, 4: 5} {
		for length := range longest + 1 {
			picks := make([]int, length)
			for code := range pow(workers, length) {
				for i := range picks {
					picks[i] = code%workers + shift[(i+code)%len(shift)]
					code /= workers
				}
				checkFair(t, picks, workers)
			}
		}
	}
}

func pow(x, n int) int {
	p := 1
	for range n {
		p *= x
	}
	return p
}

// 10.1, 10.2: drawn lists, with many workers too.
func TestFairOfDrawnLists(t *testing.T) {
	r := rand.New(rand.NewSource(10))
	for n := range 400 {
		workers := 1 + r.Intn(5)
		if n%8 == 0 {
			workers = 1 + r.Intn(api.MaxWorkers)
		}
		picks := make([]int, r.Intn(3*workers+40))
		for i := range picks {
			picks[i] = int(r.Uint64())
			if r.Intn(2) == 0 {
				picks[i] = i
			}
		}
		checkFair(t, picks, workers)
	}
}

// 10.1, 10.2: what is refused.
func TestFairRefusals(t *testing.T) {
	for _, picks := range [][]int{nil, {0}, {0, 1, 2}} {
		for _, workers := range noWorkers {
			if got := script.Window(picks, workers); got != 0 {
				t.Errorf("10.2: Window(%v, %d) = %d", picks, workers, got)
			}
			for _, window := range []int{-1, 0, 1, 2, 100, math.MinInt, math.MaxInt} {
				if script.Fair(picks, workers, window) {
					t.Errorf("10.1: Fair(%v, %d, %d)", picks, workers, window)
				}
			}
		}
		for _, window := range []int{0, -1, math.MinInt} {
			if script.Fair(picks, 1, window) {
				t.Errorf("10.1: Fair(%v, 1, %d)", picks, window)
			}
		}
	}
}

// 10.1, 10.2: the time does not grow with the window. Looked at stretch by stretch, this would take hours.
func TestFairOfLongLists(t *testing.T) {
	const length, half = 1 << 21, 1 << 20
	picks := make([]int, length)
	for i := range picks {
		picks[i] = i % 63
	}
	picks[half-1], picks[half], picks[length-1] = 63, 63, 63
	if got := script.Window(picks, 64); got != half {
		t.Errorf("10.2: Window of %d picks = %d, want %d", length, got, half)
	}
	for _, window := range []int{1, half - 1, half, half + 1, length, length + 1} {
		if got := script.Fair(picks, 64, window); got != (window >= half) {
			t.Errorf("10.1: Fair of %d picks for the window %d = %v", length, window, got)
		}
	}
}
