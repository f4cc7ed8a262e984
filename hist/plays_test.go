package hist_test

import (
	"math/rand"
	"slices"
	"testing"

	"plunder/api"
	"plunder/deque"
	"plunder/hist"
)

// checkPlay plays a script and asks whether its history has an order.
func checkPlay(t *testing.T, first, most int, todos []api.Todo, thieves int, picks []int) api.DequeRun {
	t.Helper()
	run, err := deque.Play(first, most, todos, thieves, picks)
	if err != api.OK {
		t.Fatalf("Play: %d", err)
	}
	calls := run.Calls
	if len(calls) > api.MaxCalls { // they stand as they began
		calls = hist.Cut(calls, calls[api.MaxCalls].Begin)
	}
	order, err := hist.Order(calls, most)
	if err != api.OK || !hist.Legal(calls, most, order) {
		t.Fatalf("deque of %d to %d, todos %v, %d thieves, picks %v: %v: %v, %d", first, most, todos, thieves, picks, calls, order, err)
	}
	return run
}

// P9: every script of some picks, behind a few that fill the deque, of an owner and one thief.
func TestAllScripts(t *testing.T) {
	const P, p = api.TPush, api.TPop
	for _, c := range []struct {
		first, most, ahead int
		todos              []api.Todo
	}{
		{1, 2, 0, []api.Todo{{Kind: P, V: 7}, {Kind: p}, {Kind: P, V: 8}}},
		{1, 2, 6, []api.Todo{{Kind: P, V: 7}, {Kind: p}, {Kind: P, V: 8}}},
		{1, 1, 6, []api.Todo{{Kind: P, V: 7}, {Kind: P, V: 8}, {Kind: p}, {Kind: p}}},
		{1, 2, 17, []api.Todo{{Kind: P, V: 7}, {Kind: P, V: 8}, {Kind: p}, {Kind: p}, {Kind: p}}},
		{1, 4, 6, []api.Todo{{Kind: P, V: 7}, {Kind: P, V: 8}, {Kind: p}}},
	} {
		const picks = 14
		for script := range 1 << picks {
			list := make([]int, c.ahead)
			for i := range picks {
				list = append(list, script>>i&1)
			}
			checkPlay(t, c.first, c.most, c.todos, 1, list)
		}
	}
}

// P9, 4.3: long scripts in which the actors come in bursts, so that some stand still in the middle of a call for long; and what is cut of a play is what a shorter one tells.
func TestLongScripts(t *testing.T) {
	r := rand.New(rand.NewSource(9))
	unfinished, lost := 0, 0
	for range 6000 {
		most := 1 + r.Intn(4)
		first := 1 + r.Intn(most)
		thieves := r.Intn(4)
		var todos []api.Todo
		for range 1 + r.Intn(20) {
			todos = append(todos, api.Todo{Kind: r.Intn(2), V: int64(r.Intn(3))})
		}
		var picks []int
		for len(picks) < 100 {
			who := r.Intn(1 + thieves)
			for range 1 + r.Intn(8) {
				picks = append(picks, who)
			}
		}
		run := checkPlay(t, first, most, todos, thieves, picks)
		part := r.Intn(len(picks))
		if short := checkPlay(t, first, most, todos, thieves, picks[:part]); !slices.Equal(hist.Cut(run.Calls, part), short.Calls) {
			t.Fatalf("Cut of %v at %d is not %v", run.Calls, part, short.Calls)
		}
		for _, c := range run.Calls {
			switch c.Code {
			case api.Running:
				unfinished++
			case api.Lost:
				lost++
			}
		}
	}
	if unfinished < 1000 || lost < 100 {
		t.Errorf("%d unfinished, %d lost", unfinished, lost)
	}
}
