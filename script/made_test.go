package script_test

import (
	"math"
	"math/big"
	"math/rand"
	"slices"
	"testing"

	"plunder/api"
	"plunder/ops"
	"plunder/script"
)

func sameScript(a, b api.Script) bool {
	return slices.Equal(a.Picks, b.Picks) && slices.Equal(a.Draws, b.Draws)
}

func empty(s api.Script) bool { return len(s.Picks) == 0 && len(s.Draws) == 0 }

// seeds at the edges, and some others.
var seeds = []int64{0, 1, -1, 7, 1 << 33, -987654321, math.MaxInt64, math.MinInt64}

// wordsSeeded is the first numbers of a seed by the chapter's words, in numbers that do not wrap by themselves.
func wordsSeeded(seed int64, n int) []int {
	factor, _ := new(big.Int).SetString("6543210987654321773", 10)
	summand, _ := new(big.Int).SetString("1234567890123456789", 10)
	round := new(big.Int).Lsh(big.NewInt(1), 64)
	half := new(big.Int).Lsh(big.NewInt(1), 63)
	x := big.NewInt(seed)
	var numbers []int
	for range n {
		x.Mul(x, factor).Add(x, summand).Mod(x, round)
		if x.Cmp(half) >= 0 {
			x.Sub(x, round)
		}
		numbers = append(numbers, int(new(big.Int).Rsh(x, 33).Int64()))
	}
	return numbers
}

// wordsNoise is 10.4 by its words, for arguments that are not refused.
func wordsNoise(seed int64, workers, window, length int) api.Script {
	numbers := wordsSeeded(seed, 2*length)
	var s api.Script
	for i := range length {
		pick, greatest := 0, -1
		for worker := range workers {
			wait := 0
			for wait < i && s.Picks[i-1-wait] != worker {
				wait++
			}
			if wait > greatest {
				pick, greatest = worker, wait
			}
		}
		if greatest < window-workers {
			pick = ops.Mod(numbers[2*i], workers)
		}
		s.Picks = append(s.Picks, pick)
		s.Draws = append(s.Draws, numbers[2*i+1])
	}
	return s
}

// 10.3
func TestTurns(t *testing.T) {
	for _, c := range []struct {
		workers, rounds int
		want            []int
	}{{2, 3, []int{0, 1, 0, 1, 0, 1}}, {1, 3, []int{0, 0, 0}}, {3, 1, []int{0, 1, 2}}, {5, 0, nil}, {64, 0, nil}} {
		if picks, err := script.Turns(c.workers, c.rounds); err != api.OK || !slices.Equal(picks, c.want) {
			t.Errorf("10.3: Turns(%d, %d) = %v, %d, want %v", c.workers, c.rounds, picks, err, c.want)
		}
	}
	for workers := 1; workers <= api.MaxWorkers; workers++ {
		most := 1048576 / workers
		picks, err := script.Turns(workers, most)
		if err != api.OK || len(picks) != workers*most {
			t.Fatalf("10.3: Turns(%d, %d): %d picks, %d", workers, most, len(picks), err)
		}
		for i, x := range picks {
			if x != i%workers {
				t.Fatalf("10.3: Turns(%d, %d): pick %d is %d", workers, most, i, x)
			}
		}
		beyond := []int{most + 1, math.MaxInt}
		if workers > 2 {
			beyond = append(beyond, int(math.MaxUint64/uint64(workers))+1) // the product would wrap to a small one
		}
		for _, rounds := range beyond {
			if picks, err := script.Turns(workers, rounds); err != api.ErrLong || len(picks) != 0 {
				t.Errorf("10.3: Turns(%d, %d): %d picks, %d, want ErrLong", workers, rounds, len(picks), err)
			}
		}
	}
}

// 10.3: what is refused first.
func TestTurnsRefusals(t *testing.T) {
	for _, rounds := range []int{0, 1, -1, math.MaxInt, math.MinInt} {
		for _, workers := range noWorkers {
			if picks, err := script.Turns(workers, rounds); err != api.ErrArg || len(picks) != 0 {
				t.Errorf("10.3: Turns(%d, %d) = %v, %d, want ErrArg", workers, rounds, picks, err)
			}
		}
		if picks, err := script.Turns(64, rounds); rounds < 0 && (err != api.ErrArg || len(picks) != 0) {
			t.Errorf("10.3: Turns(64, %d) = %v, %d, want ErrArg", rounds, picks, err)
		}
	}
}

// 10.4: numbers that were worked out by hand.
func TestNoiseExamples(t *testing.T) {
	for _, seed := range seeds {
		if s, err := script.Noise(seed, 3, 3, 7); err != api.OK || !slices.Equal(s.Picks, []int{0, 1, 2, 0, 1, 2, 0}) || len(s.Draws) != 7 {
			t.Errorf("10.4: Noise(%d, 3, 3, 7) = %v, %d", seed, s, err)
		}
	}
	for _, c := range []struct {
		seed                    int64
		workers, window, length int
		want                    api.Script
	}{
		{7, 3, 6, 12, api.Script{Picks: []int{1, 2, 0, 0, 1, 2, 0, 2, 1, 2, 0, 1}, Draws: []int{-169554008, -819648141, 95899683, -55970103, -423057822, -317064915, 40111676, 333734145, -364640445, -1006702271, 479355661, 553072315}}},
		{-1, 2, 3, 4, api.Script{Picks: []int{1, 0, 1, 0}, Draws: []int{-654956583, 513580913, -506497678, -130453970}}},
		{1, 4, 100, 6, api.Script{Picks: []int{3, 0, 3, 1, 0, 2}, Draws: []int{3264972, 180273650, 717843486, -648703915, 483957569, 418970282}}},
	} {
		if s, err := script.Noise(c.seed, c.workers, c.window, c.length); err != api.OK || !sameScript(s, c.want) {
			t.Errorf("10.4: Noise(%d, %d, %d, %d) = %v, %d, want %v", c.seed, c.workers, c.window, c.length, s, err, c.want)
		}
	}
}

// 10.4: by its words, and fair for the window.
func TestNoiseByItsWords(t *testing.T) {
	r := rand.New(rand.NewSource(4))
	for n := range 600 {
		seed, workers := seeds[n%len(seeds)], 1+r.Intn(6)
		if n%3 == 0 {
			seed = int64(r.Uint64())
		}
		if n%10 == 0 {
			workers = 1 + r.Intn(api.MaxWorkers)
		}
		window := workers + r.Intn(3*workers+2)
		if n%20 == 0 {
			window = math.MaxInt - r.Intn(3)
		}
		length := r.Intn(200)
		s, err := script.Noise(seed, workers, window, length)
		if want := wordsNoise(seed, workers, window, length); err != api.OK || !sameScript(s, want) {
			t.Fatalf("10.4: Noise(%d, %d, %d, %d) = %v, %d, want %v", seed, workers, window, length, s, err, want)
		}
		if window <= length && !wordsFair(s.Picks, workers, window) || !script.Fair(s.Picks, workers, window) {
			t.Errorf("10.4: Noise(%d, %d, %d, %d) is not fair: %v", seed, workers, window, length, s.Picks)
		}
	}
}

// 10.4: as long as may be, with the most workers.
func TestNoiseOfTheGreatestLength(t *testing.T) {
	for _, window := range []int{64, 65, 100, 400, math.MaxInt} {
		s, err := script.Noise(99, 64, window, 1048576)
		if err != api.OK || len(s.Picks) != 1048576 || len(s.Draws) != 1048576 || !script.Fair(s.Picks, 64, window) {
			t.Errorf("10.4: Noise(99, 64, %d, 1048576): %d picks, %d draws, %d", window, len(s.Picks), len(s.Draws), err)
		}
	}
}

// 10.4: what is refused, and what is refused first.
func TestNoiseRefusals(t *testing.T) {
	numbers := []int{math.MinInt, -1, 0, 1, 2, 63, 64, 65, 1048576, 1048577, math.MaxInt}
	for _, workers := range numbers {
		for _, window := range numbers {
			for _, length := range []int{math.MinInt, -1, 0, 1, 5, 1048577, math.MaxInt} {
				want := api.OK
				switch {
				case workers < 1 || workers > 64:
					want = api.ErrArg
				case window < workers:
					want = api.ErrWindow
				case length < 0:
					want = api.ErrArg
				case length > 1048576:
					want = api.ErrLong
				}
				s, err := script.Noise(3, workers, window, length)
				if err != want || err != api.OK && !empty(s) {
					t.Errorf("10.4: Noise(3, %d, %d, %d) = %d picks, %d, want %d", workers, window, length, len(s.Picks), err, want)
				}
			}
		}
	}
}

// 10.5
func TestCut(t *testing.T) {
	s := api.Script{Picks: []int{4, -5, 6}, Draws: []int{7, 8, 9, 10}}
	for n, want := range map[int]int{math.MinInt: 0, -1: 0, 0: 0, 1: 1, 2: 2, 3: 3, 4: 3, math.MaxInt: 3} {
		got := script.Cut(s, n)
		if !slices.Equal(got.Picks, s.Picks[:want]) || !slices.Equal(got.Draws, s.Draws) {
			t.Errorf("10.5: Cut(%v, %d) = %v", s, n, got)
		}
		if none := script.Cut(api.Script{}, n); !empty(none) {
			t.Errorf("10.5: Cut of the empty script, %d, = %v", n, none)
		}
	}
}

// 10.5, R3: a cut shares nothing with its script, in neither direction, behind its end neither.
func TestCutIsNewMemory(t *testing.T) {
	s := api.Script{Picks: []int{1, 2, 3}, Draws: []int{4, 5, 6, 7}[:2]}
	for n := range 4 {
		cut := script.Cut(s, n)
		for i := range cut.Picks {
			cut.Picks[i] = 99
		}
		cut.Draws[0] = 99
		cut.Picks, cut.Draws = append(cut.Picks, 98), append(cut.Draws, 98)
		if !slices.Equal(s.Picks, []int{1, 2, 3}) || !slices.Equal(s.Draws[:4], []int{4, 5, 6, 7}) {
			t.Fatalf("10.5: what is written into the cut of %d stands in the script: %v", n, s)
		}
	}
	cut := script.Cut(s, 2)
	s.Picks[0], s.Draws[0] = 50, 50
	if !sameScript(cut, api.Script{Picks: []int{1, 2}, Draws: []int{4, 5}}) {
		t.Errorf("10.5: what is written into the script stands in the cut: %v", cut)
	}
}
