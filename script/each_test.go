package script_test

import (
	"iter"
	"math"
	"slices"
	"testing"

	"plunder/api"
	"plunder/script"
)

// pair is what Each yields for one pick.
type pair struct{ number, worker int }

func gone(seq iter.Seq2[int, int]) []pair {
	var all []pair
	for i, w := range seq {
		all = append(all, pair{i, w})
	}
	return all
}

// 10.8
func TestEach(t *testing.T) {
	s := api.Script{Picks: []int{0, 5, -1, math.MaxInt, math.MinInt}, Draws: []int{1, 2}}
	for workers, want := range map[int][]pair{
		1: {{0, 0}, {1, 0}, {2, 0}, {3, 0}, {4, 0}}, 2: {{0, 0}, {1, 1}, {2, 1}, {3, 1}, {4, 0}}, 3: {{0, 0}, {1, 2}, {2, 2}, {3, 1}, {4, 1}}, 64: {{0, 0}, {1, 5}, {2, 63}, {3, 63}, {4, 0}},
	} {
		seq := script.Each(s, workers)
		for range 3 {
			if got := gone(seq); !slices.Equal(got, want) {
				t.Errorf("10.8: Each for %d workers = %v, want %v", workers, got, want)
			}
		}
	}
	if got := gone(script.Each(api.Script{Draws: []int{1}}, 1)); got != nil {
		t.Errorf("10.8: Each without picks = %v", got)
	}
}

// 10.8: a number of workers that is not good.
func TestEachYieldsNothing(t *testing.T) {
	for _, workers := range noWorkers {
		seq := script.Each(api.Script{Picks: []int{0, 1}}, workers)
		if seq == nil || gone(seq) != nil {
			t.Errorf("10.8: Each for %d workers yields", workers)
		}
	}
}

// 10.8: it can be stopped anywhere, and begins anew behind that; several can be on their way at a time.
func TestEachIsStopped(t *testing.T) {
	s := api.Script{Picks: []int{3, 4, 5, 6}}
	seq := script.Each(s, 4)
	want := []pair{{0, 3}, {1, 0}, {2, 1}, {3, 2}}
	for stop := range 5 {
		var got []pair
		for i, w := range seq {
			if i == stop {
				break
			}
			got = append(got, pair{i, w})
		}
		if !slices.Equal(got, want[:stop]) {
			t.Errorf("10.8: stopped ahead of %d: %v", stop, got)
		}
	}
	for i, w := range seq {
		if all := gone(seq); !slices.Equal(all, want) || want[i] != (pair{i, w}) {
			t.Errorf("10.8: one within another: %v, %d, %d", all, i, w)
		}
	}
}

// 10.8: the picks are those at the call of Each.
func TestEachDoesNotSeeWhatIsWritten(t *testing.T) {
	s := api.Script{Picks: []int{0, 1, 2}}
	seq := script.Each(s, 3)
	s.Picks[0] = 2
	for i := range seq {
		s.Picks[2] = i
	}
	s.Picks = append(s.Picks[:1], 7, 7)
	if got := gone(seq); !slices.Equal(got, []pair{{0, 0}, {1, 1}, {2, 2}}) {
		t.Errorf("10.8: Each = %v", got)
	}
}
