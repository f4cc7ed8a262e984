package dag_test

import (
	"math"
	"math/rand"
	"slices"
	"testing"

	"plunder/api"
	"plunder/dag"
)

func fan() api.Dag { return of(5, 0, 4, 1, 4, 2, 4, 3, 4) }

// judged asks Judge for what it says.
func judged(t *testing.T, d api.Dag, processors int, times []int, want int) {
	t.Helper()
	if v, err := dag.Judge(d, processors, times); v != want || err != api.OK {
		t.Errorf("7.6: Judge(%v, %d, %v) = %d, %d, want %d", d, processors, times, v, err, want)
	}
}

// 7.5: the chapter's examples, and others by hand.
func TestGreedyExamples(t *testing.T) {
	for _, c := range []struct {
		d          api.Dag
		processors int
		want       []int
	}{
		{of(0), 1, nil}, {of(0), 64, nil}, {of(1), 1, []int{1}}, {of(1), 64, []int{1}},
		{diamond(), 1, []int{1, 2, 3, 4}}, {diamond(), 2, []int{1, 2, 2, 3}}, {diamond(), 3, []int{1, 2, 2, 3}}, {diamond(), 64, []int{1, 2, 2, 3}},
		{of(3), 2, []int{1, 1, 2}}, {of(3), 1, []int{1, 2, 3}}, {of(3), 3, []int{1, 1, 1}}, {fan(), 3, []int{1, 1, 1, 2, 3}},
		// what is freed at a time is not done at the same time, though a processor is idle and though its number is lower than others
		{of(4, 0, 1), 2, []int{1, 2, 1, 2}}, {of(3, 0, 1), 3, []int{1, 2, 1}},
		// an edge that stands there twice is waited for once
		{of(3, 0, 2, 0, 2), 1, []int{1, 2, 3}}, {of(3, 0, 1, 0, 1, 0, 1, 1, 2), 2, []int{1, 2, 3}},
		{of(6, 0, 5, 1, 2, 2, 4, 3, 4), 2, []int{1, 1, 2, 2, 3, 3}},
		// a low number that comes late goes ahead of high ones that have been ready for long
		{of(6, 0, 1), 1, []int{1, 2, 3, 4, 5, 6}}, {of(8, 0, 2, 2, 3), 2, []int{1, 1, 2, 3, 2, 3, 4, 4}},
	} {
		if l, err := dag.Greedy(c.d, c.processors); !slices.Equal(l, c.want) || err != api.OK {
			t.Errorf("7.5: Greedy(%v, %d) = %v, %d, want %v", c.d, c.processors, l, err, c.want)
		}
	}
}

// 7.5, 7.6: the errors, in their order.
func TestProcessors(t *testing.T) {
	for _, processors := range []int{0, -1, 65, math.MinInt, math.MaxInt} {
		for _, d := range []api.Dag{of(0), of(2), diamond()} {
			if l, err := dag.Greedy(d, processors); len(l) != 0 || err != api.ErrArg {
				t.Errorf("7.5: Greedy(%v, %d) = %v, %d, want ErrArg", d, processors, l, err)
			}
			for _, times := range [][]int{nil, {1, 2}, {1, 2, 2, 3}} {
				if v, err := dag.Judge(d, processors, times); v != 0 || err != api.ErrArg {
					t.Errorf("7.6: Judge(%v, %d, %v) = %d, %d, want ErrArg", d, processors, times, v, err)
				}
			}
		}
	}
	for _, times := range [][]int{nil, {}, {1, 2, 2}, {1, 2, 2, 3, 4}, {0, 0, 0}, make([]int, 100000)} {
		if v, err := dag.Judge(diamond(), 2, times); v != 0 || err != api.ErrTimes {
			t.Errorf("7.6: Judge(.., 2, %d times) = %d, %d, want ErrTimes", len(times), v, err)
		}
	}
	if v, err := dag.Judge(of(0), 2, []int{1}); v != 0 || err != api.ErrTimes {
		t.Errorf("7.6: Judge of no node with a time = %d, %d, want ErrTimes", v, err)
	}
}

// 7.6: the chapter's examples, and others by hand.
func TestJudgeExamples(t *testing.T) {
	judged(t, diamond(), 2, []int{1, 2, 2, 3}, 2)
	judged(t, diamond(), 2, []int{1, 2, 3, 4}, 1)
	judged(t, diamond(), 1, []int{1, 3, 2, 4}, 2)
	judged(t, diamond(), 1, []int{1, 2, 2, 3}, 0)
	judged(t, diamond(), 2, []int{1, 1, 2, 3}, 0)
	judged(t, diamond(), 64, []int{0, 1, 1, 2}, 0)
	judged(t, diamond(), 2, []int{1, 2, 2, math.MaxInt}, 1)
	judged(t, of(3), 2, []int{1, 1, 2}, 2)
	judged(t, of(3), 2, []int{1, 2, 2}, 1)
	judged(t, of(0), 1, nil, 2)
	judged(t, of(0), 64, []int{}, 2)
	// times with gaps, at the beginning and between
	judged(t, diamond(), 2, []int{2, 3, 3, 4}, 1)
	judged(t, diamond(), 2, []int{1, 3, 3, 4}, 1)
	judged(t, of(1), 1, []int{2}, 1)
	judged(t, of(1), 1, []int{1}, 2)
	// times that are no times, wherever they stand
	judged(t, diamond(), 2, []int{1, 2, 2, -3}, 0)
	judged(t, of(2), 2, []int{1, 0}, 0)
	judged(t, of(2), 2, []int{math.MinInt, 1}, 0)
	judged(t, of(2, 0, 1), 2, []int{math.MinInt, math.MaxInt}, 0)
	// an edge from a time to the same one, and backwards
	judged(t, of(2, 0, 1), 2, []int{1, 1}, 0)
	judged(t, of(2, 0, 1), 2, []int{2, 1}, 0)
	// the greatest times
	judged(t, of(3), 3, []int{math.MaxInt, math.MaxInt, math.MaxInt}, 1)
	judged(t, of(3), 2, []int{math.MaxInt, math.MaxInt, math.MaxInt}, 0)
	judged(t, of(2, 0, 1), 1, []int{math.MaxInt - 1, math.MaxInt}, 1)
	judged(t, of(3, 0, 1, 1, 2), 1, []int{1, 2, math.MaxInt}, 1)
	judged(t, of(2, 0, 1), 1, []int{math.MaxInt, 1}, 0)
	// a node that waits through full times alone, and one that waits through one that is not full
	judged(t, of(5, 0, 4), 2, []int{1, 1, 2, 2, 3}, 2)
	judged(t, of(5, 0, 3), 2, []int{1, 1, 2, 3, 3}, 1)
}

// 7.6, P10: all dags of up to four nodes, all times from 0 to one more than there are nodes, 1 to 4 processors: Judge says what the chapter's words say, and the bounds hold.
func TestAllSmall(t *testing.T) {
	verdicts := [3]int{}
	for n := range 5 {
		var pairs []api.Edge
		for to := range n {
			for from := range to {
				pairs = append(pairs, api.Edge{From: from, To: to})
			}
		}
		for set := range 1 << len(pairs) {
			d := api.Dag{N: n}
			for k, e := range pairs {
				if set>>k&1 == 1 {
					d.Edges = append(d.Edges, e)
				}
			}
			for processors := 1; processors <= 4; processors++ {
				allTimes(n, n+2, func(times []int) {
					want := judge(d, processors, times)
					verdicts[want]++
					judged(t, d, processors, times, want)
					bounds(t, d, processors, times)
				})
			}
		}
	}
	for v, n := range verdicts {
		if n < 500 {
			t.Errorf("7.6: too few times for the verdict %d: %d", v, n)
		}
	}
}

// allTimes goes through all lists of n numbers from 0 to below top.
func allTimes(n, top int, do func(times []int)) {
	times := make([]int, n)
	for {
		do(times)
		k := 0
		for k < n && times[k] == top-1 {
			times[k] = 0
			k++
		}
		if k == n {
			return
		}
		times[k]++
	}
}

// bounds is P10, for whatever Judge says of the times.
func bounds(t *testing.T, d api.Dag, processors int, times []int) {
	t.Helper()
	v, _ := dag.Judge(d, processors, times)
	if v == 0 {
		return
	}
	length := slices.Max(append(slices.Clone(times), 0))
	s, _ := dag.Span(d)
	if length < s || length < math.MaxInt/64 && processors*length < d.N {
		t.Errorf("P10: %v: the schedule %v for %d is too short", d, times, processors)
	}
	if v == 2 && processors*length > d.N+(processors-1)*s {
		t.Errorf("P10: %v: the greedy schedule %v for %d is too long", d, times, processors)
	}
	if v == 2 && processors == 1 && length != d.N {
		t.Errorf("P10: %v: the greedy schedule %v for one processor takes not just %d", d, times, d.N)
	}
}

// 7.5, 7.6, P10: Greedy of drawn dags is what the words say, and a greedy schedule; so is one that takes those that are ready in another order.
func TestDrawnGreedy(t *testing.T) {
	r := rand.New(rand.NewSource(75))
	for range 3000 {
		d := drawDag(r, 24)
		processors := 1 + r.Intn(1+r.Intn(8))
		want := greedy(d, processors, upTo(d.N))
		l, err := dag.Greedy(d, processors)
		if !slices.Equal(l, want) || err != api.OK {
			t.Fatalf("7.5: Greedy(%v, %d) = %v, %d, want %v", d, processors, l, err, want)
		}
		judged(t, d, processors, l, 2)
		bounds(t, d, processors, l)
		other := greedy(d, processors, r.Perm(d.N))
		judged(t, d, processors, other, 2)
		bounds(t, d, processors, other)
		if all, _ := dag.Earliest(d); d.N <= 64 {
			judged(t, d, 64, all, 2)
		}
	}
}

// 7.6, P10: schedules with something changed, and times without a plan.
func TestDrawnTimes(t *testing.T) {
	r := rand.New(rand.NewSource(76))
	verdicts := [3]int{}
	for range 20000 {
		d := drawDag(r, 10)
		processors := 1 + r.Intn(4)
		times := greedy(d, processors, r.Perm(d.N))
		for range r.Intn(3) {
			spoil(r, times)
		}
		want := judge(d, processors, times)
		verdicts[want]++
		judged(t, d, processors, times, want)
		bounds(t, d, processors, times)
	}
	for v, n := range verdicts {
		if n < 1000 {
			t.Errorf("7.6: too few times for the verdict %d: %d", v, n)
		}
	}
}

// spoil changes one time, two of them for each other, or all behind some time.
func spoil(r *rand.Rand, times []int) {
	if len(times) == 0 {
		return
	}
	a, b := r.Intn(len(times)), r.Intn(len(times))
	switch r.Intn(4) {
	case 0:
		times[a] += r.Intn(3) - 1
	case 1:
		times[a], times[b] = times[b], times[a]
	case 2:
		times[a] = 1 + slices.Max(times)
	case 3:
		gap := 1 + r.Intn(2)
		for k, since := 0, times[a]; k < len(times); k++ {
			if times[k] >= since {
				times[k] += gap
			}
		}
	}
}

// 7.5, 7.6: the greatest dags are answered soon, whatever the times.
func TestGreatestSchedules(t *testing.T) {
	r := rand.New(rand.NewSource(77))
	wide := of(api.MaxNodes)
	drawn := api.Dag{N: api.MaxNodes}
	for range api.MaxEdges {
		to := 1 + r.Intn(drawn.N-1)
		drawn.Edges = append(drawn.Edges, api.Edge{From: r.Intn(to), To: to})
	}
	for _, d := range []api.Dag{wide, chain(api.MaxNodes), drawn} {
		for _, processors := range []int{1, 2, 63, 64} {
			l, err := dag.Greedy(d, processors)
			if err != api.OK || len(l) != d.N {
				t.Fatalf("7.5: %d times, %d", len(l), err)
			}
			judged(t, d, processors, l, 2)
			bounds(t, d, processors, l)
			for k := range l {
				l[k] *= math.MaxInt / api.MaxNodes
			}
			judged(t, d, processors, l, 1)
		}
	}
	l, _ := dag.Greedy(wide, 64)
	if slices.Max(l) != 64 || l[63] != 1 || l[64] != 2 || l[4095] != 64 {
		t.Errorf("7.5: 4096 nodes without edges on 64 processors: %v", l)
	}
}

// What is handed in stays as it is, with the room behind its end; what is handed out is memory of its own.
func TestMemory(t *testing.T) {
	r := rand.New(rand.NewSource(78))
	for range 300 {
		d := drawDag(r, 12)
		edges := append(slices.Clone(d.Edges), api.Edge{From: -5, To: -6})
		d.Edges = edges[:len(edges)-1]
		was := slices.Clone(edges)
		var kept [3][]int
		for round := range 2 {
			a, _ := dag.Earliest(d)
			b, _ := dag.Critical(d)
			c, _ := dag.Greedy(d, 2)
			times := append(slices.Clone(c), -9)
			wasTimes := slices.Clone(times)
			dag.Span(d)
			dag.Judge(d, 2, times[:len(c)])
			if !slices.Equal(times, wasTimes) || !slices.Equal(edges, was) {
				t.Fatalf("R3: times %v, edges %v, were %v, %v", times, edges, wasTimes, was)
			}
			for k, l := range [][]int{a, b, c} {
				if round == 0 {
					kept[k] = slices.Clone(l)
				} else if !slices.Equal(l, kept[k]) {
					t.Fatalf("R3: an answer shows what was written into an earlier one: %v, want %v", l, kept[k])
				}
				for i := range l[:cap(l)] {
					l[:cap(l)][i] = -77
				}
			}
		}
	}
}
