package machine_test

import (
	"math"
	"math/big"
	"math/rand"
	"testing"

	"plunder/machine"
)

// wordsBound is 12.6 by its words, with numbers of any size.
func wordsBound(work, tasks, workers, window int) int {
	if work < 1 || tasks < 1 || window < 1 || workers < 1 || workers > 64 {
		return 0
	}
	n := func(x int) *big.Int { return big.NewInt(int64(x)) }
	sum := new(big.Int).Mul(n(2), n(work))
	sum.Add(sum, new(big.Int).Mul(n(workers+32), n(tasks)))
	sum.Add(sum, n(4*workers+32))
	sum.Mul(sum, n(window))
	if sum.Cmp(n(math.MaxInt)) > 0 {
		return math.MaxInt
	}
	return int(sum.Int64())
}

func checkBound(t *testing.T, work, tasks, workers, window int) {
	t.Helper()
	if got, want := machine.Bound(work, tasks, workers, window), wordsBound(work, tasks, workers, window); got != want {
		t.Errorf("12.6: Bound(%d, %d, %d, %d) = %d, want %d", work, tasks, workers, window, got, want)
	}
}

// 12.6
func TestBound(t *testing.T) {
	for _, c := range [][5]int{
		{1, 1, 1, 1, 71}, {10, 3, 2, 5, 810}, {1, 1, 65, 1, 0}, {1, 1, 64, 1, 386}, {math.MaxInt, 1, 1, 1, math.MaxInt},
		{0, 1, 1, 1, 0}, {1, 0, 1, 1, 0}, {1, 1, 0, 1, 0}, {1, 1, 1, 0, 0}, {math.MinInt, math.MinInt, math.MinInt, math.MinInt, 0}, {math.MaxInt, math.MaxInt, math.MaxInt, math.MaxInt, 0}, {math.MaxInt, math.MaxInt, 64, math.MaxInt, math.MaxInt},
	} {
		if got := machine.Bound(c[0], c[1], c[2], c[3]); got != c[4] {
			t.Errorf("12.6: Bound(%d, %d, %d, %d) = %d, want %d", c[0], c[1], c[2], c[3], got, c[4])
		}
		checkBound(t, c[0], c[1], c[2], c[3])
	}
}

// 12.6: around each place at which a sum or a product leaves the range.
func TestBoundAtTheEdges(t *testing.T) {
	for workers := -1; workers <= 66; workers++ {
		for d := -80; d <= 80; d++ {
			checkBound(t, math.MaxInt/2+d, 1, workers, 1)
			checkBound(t, math.MaxInt/2-d, 1, workers, 2)
			checkBound(t, 1, math.MaxInt/max(1, workers+32)+min(d, 0), workers, 1)
			checkBound(t, 1, math.MaxInt/max(1, workers+32)+min(d, 5), workers, 3)
			checkBound(t, math.MaxInt/4+d, math.MaxInt/2/max(1, workers+32)-d, workers, 1)
			if one := wordsBound(3, 5, workers, 1); one > 0 {
				checkBound(t, 3, 5, workers, math.MaxInt/one+min(d, 9))
			}
		}
	}
	r := rand.New(rand.NewSource(12))
	number := func() int { return int(r.Uint64()) >> r.Intn(64) }
	for range 100000 {
		checkBound(t, number(), number(), 1+r.Intn(64), number())
	}
}
