package buffers_test

import (
	"fmt"
	"math"
	"math/rand"
	"slices"
	"testing"

	"plunder/api"
	"plunder/buffers"
	"plunder/cells"
	"plunder/spy"
)

// 21.8: the examples 2 and 3, and scenes like them.
func TestWeakExamples(t *testing.T) {
	for i, c := range []struct {
		size  int
		lists [][]api.Act
		found bool
	}{
		{2, lists(acts(spy.Store(0, 1), spy.Load(1)), acts(spy.Store(1, 1), spy.Load(0))), true},
		{2, lists(acts(spy.Store(0, 1), fence, spy.Load(1)), acts(spy.Store(1, 1), fence, spy.Load(0))), false},
		{2, lists(acts(spy.Store(0, 1), fence, spy.Load(1)), acts(spy.Store(1, 1), spy.Load(0))), true},
		{2, lists(acts(spy.Store(0, 1), spy.Load(1)), acts(spy.Store(1, 1), fence, spy.Load(0))), true},
		{2, lists(acts(spy.Store(0, 1), spy.Store(1, 1)), acts(spy.Load(1), spy.Load(0))), false},
		{2, lists(acts(spy.Load(0), spy.Store(1, 1)), acts(spy.Load(1), spy.Store(0, 1))), false},
		{2, lists(acts(spy.Store(0, 1)), acts(spy.Store(1, 1)), acts(spy.Load(0), spy.Load(1)), acts(spy.Load(1), spy.Load(0))), false},
		{3, lists(acts(spy.Store(0, 1), spy.Add(2, 0), spy.Load(1)), acts(spy.Store(1, 1), spy.Add(2, 0), spy.Load(0))), false},
		{3, lists(acts(spy.Store(0, 1), spy.CAS(2, 5, 5), spy.Load(1)), acts(spy.Store(1, 1), spy.CAS(2, 0, 0), spy.Load(0))), false},
		{8, lists(acts(spy.Store(7, math.MinInt64), spy.Load(6)), acts(spy.Store(6, math.MaxInt64), spy.Load(7)), nil, acts(fence)), true},
		{1, lists(acts(spy.Store(0, 1), spy.Load(0)), acts(spy.Store(0, 2), spy.Load(0))), false},
		{2, lists(acts(spy.Store(0, 1), spy.Load(0), spy.Load(1)), acts(spy.Store(1, 1), spy.Load(1), spy.Load(0))), true},
		{2, lists(acts(spy.Store(0, 0), spy.Load(1)), acts(spy.Store(1, 0), spy.Load(0))), false}, // what is stored can't be told from what was there
		{0, lists(nil), false}, {0, lists(acts(fence, fence), acts(fence)), false}, {8, make([][]api.Act, 4), false},
	} {
		checkWeak(t, i, c.size, c.lists, c.found)
	}
}

// checkWeak holds what Weak answers against what there is to be found.
func checkWeak(t *testing.T, round, size int, l [][]api.Act, want bool) {
	t.Helper()
	before := cloned(l)
	picks, found, err := buffers.Weak(size, l)
	if err != api.OK || found != want || found != (len(picks) > 0) || len(picks) > 2*api.MaxWeak {
		t.Fatalf("scene %d: Weak(%d, %v) = %v, %v, %d, want %v", round, size, l, picks, found, err, want)
	}
	if found {
		r, err := buffers.Play(size, size, api.MaxRoom, l, picks)
		if err != api.OK || !r.Done || plainOutcomes(size, l)[outcome(r.Effects, r.Cells)] {
			t.Fatalf("scene %d: the picks %v of %v lead to %+v, %d", round, picks, l, r, err)
		}
	}
	kept := slices.Clone(picks)
	clear(picks)
	if again, _, _ := buffers.Weak(size, l); !slices.Equal(again, kept) {
		t.Fatalf("scene %d: once more the picks are %v, not %v", round, again, kept)
	}
	if !sameLists(l, before) {
		t.Fatalf("scene %d: the lists have changed", round)
	}
}

func outcome(effects [][]api.Effect, held []int64) string { return fmt.Sprint(effects, held) }

// plainOutcomes are all outcomes of lists on plain cells (21.7), by cells.Play: order by order.
func plainOutcomes(size int, l [][]api.Act) map[string]bool {
	outcomes := map[string]bool{}
	next := make([]int, len(l))
	var order []int
	var extend func()
	extend = func() {
		whole := true
		for who, list := range l {
			if next[who] < len(list) {
				whole = false
				next[who]++
				order = append(order, who)
				extend()
				order = order[:len(order)-1]
				next[who]--
			}
		}
		if whole {
			outcomes[plainOutcome(size, l, order)] = true
		}
	}
	extend()
	return outcomes
}

func plainOutcome(size int, l [][]api.Act, order []int) string {
	row := acts(spy.Reserve(size))
	for next := make([]int, len(l)); len(order) > 0; order = order[1:] {
		who := order[0]
		a := l[who][next[who]]
		a.Who = who
		if a.Kind == api.AcFence {
			a = api.Act{Who: who, Kind: api.AcReserve} // is refused, and so does nothing
		}
		row = append(row, a)
		next[who]++
	}
	r, _ := cells.Play(size, row)
	done := make([][]api.Effect, len(l))
	for i, a := range row[1:] {
		e := r.Effects[1+i]
		if a.Kind == api.AcReserve {
			e = ok(0)
		}
		done[a.Who] = append(done[a.Who], e)
	}
	return outcome(done, r.Cells)
}

// isWeak tells, by the model, whether there is a play with an outcome that is not plain.
func isWeak(size int, l [][]api.Act) bool {
	plain := plainOutcomes(size, l)
	met := map[string]bool{}
	var from func(m *model, done [][]api.Effect) bool
	from = func(m *model, done [][]api.Effect) bool {
		state := fmt.Sprint(done, m.cells, m.waits)
		if met[state] {
			return false
		}
		met[state] = true
		whole := len(m.waits) == 0
		for who := range l {
			if k := len(done[who]); k < len(l[who]) {
				whole = false
				next, more := m.copied(), cloned(done)
				more[who] = append(more[who], next.act(who, l[who][k]))
				if from(next, more) {
					return true
				}
			}
			if next := m.copied(); next.flush(who) && from(next, done) {
				return true
			}
		}
		return whole && !plain[outcome(done, m.cells)]
	}
	return from(&model{size: size, room: api.MaxRoom, cells: make([]int64, size)}, make([][]api.Effect, len(l)))
}

func (m *model) copied() *model {
	return &model{size: m.size, room: m.room, cells: slices.Clone(m.cells), waits: slices.Clone(m.waits)}
}

// 21.8: all scenes of two lists with two acts each, of some on two cells.
func TestAllSmallScenes(t *testing.T) {
	kinds := acts(spy.Load(0), spy.Load(1), spy.Store(0, 1), spy.Store(1, 1), spy.CAS(0, 0, 2), spy.Add(1, 1), fence)
	found := 0
	for code := range 7 * 7 * 7 * 7 {
		l := lists(acts(kinds[code%7], kinds[code/7%7]), acts(kinds[code/49%7], kinds[code/343]))
		if l[0][0].Kind == api.AcStore {
			l[0][0].A = 3
		}
		want := isWeak(2, l)
		if want {
			found++
		}
		checkWeak(t, code, 2, l, want)
	}
	if found < 2 {
		t.Errorf("only %d weak scenes", found)
	}
}

// 21.8: drawn scenes, up to the greatest.
func TestDrawnScenes(t *testing.T) {
	rng := rand.New(rand.NewSource(26))
	rounds, found := 400, 0
	if testing.Short() {
		rounds = 100
	}
	for round := range rounds {
		size := 1 + rng.Intn(3)
		l := make([][]api.Act, []int{1, 2, 2, 2, 3, 4}[rng.Intn(6)])
		for n := range 5 + rng.Intn(2) {
			a := api.Act{Who: rng.Intn(9) - 4, Kind: rng.Intn(2), Addr: rng.Intn(size), A: int64(n), B: int64(n + 1)}
			if n < len(l) && rng.Intn(3) > 0 { // lists that begin with stores are often weak
				a.Kind = api.AcStore
			}
			if rng.Intn(9) == 0 {
				a.Kind = []int{api.AcCAS, api.AcAdd, api.AcFence}[rng.Intn(3)]
			}
			if a.Kind == api.AcFence {
				a.Addr = outside[rng.Intn(len(outside))] // is not looked at
			}
			who := n % len(l)
			if rng.Intn(5) == 0 {
				who = rng.Intn(len(l))
			}
			l[who] = append(l[who], a)
		}
		want := isWeak(size, l)
		if want {
			found++
		}
		checkWeak(t, round, size, l, want)
	}
	if found < rounds/100 || found > rounds/2 {
		t.Errorf("%d of %d scenes are weak", found, rounds)
	}
}

// 21.10: nothing is weak where a fence stands behind each store.
func TestFencedScenes(t *testing.T) {
	rng := rand.New(rand.NewSource(27))
	for round := range 300 {
		size := 1 + rng.Intn(3)
		l := make([][]api.Act, 2+rng.Intn(2))
		for left := api.MaxWeak; left > 1; left-- {
			who, a := rng.Intn(len(l)), api.Act{Kind: rng.Intn(4), Addr: rng.Intn(size), A: 1, B: 2}
			l[who] = append(l[who], a)
			if a.Kind == api.AcStore {
				l[who] = append(l[who], fence)
				left--
			}
		}
		checkWeak(t, round, size, l, false)
	}
}

// 21.8: what is refused, the first-named error first.
func TestWeakRefusals(t *testing.T) {
	kind, addr := api.Act{Kind: api.AcReserve, A: 1}, spy.Load(2)
	seven := make([]api.Act, api.MaxWeak+1)
	six := slices.Repeat(acts(spy.Load(1)), api.MaxWeak)
	for i, c := range []struct {
		size  int
		lists [][]api.Act
		err   api.Errno
	}{
		{-1, nil, api.ErrArg}, {9, make([][]api.Act, 5), api.ErrArg}, {math.MinInt, lists(seven), api.ErrArg}, {math.MaxInt, lists(acts(kind)), api.ErrArg},
		{2, nil, api.ErrView}, {2, lists(), api.ErrView}, {2, append(make([][]api.Act, 4), seven), api.ErrView},
		{2, lists(seven), api.ErrLong}, {0, lists(acts(kind), six), api.ErrLong}, {2, lists(nil, acts(addr), six, nil), api.ErrLong},
		{2, lists(acts(spy.Load(1), kind, addr)), api.ErrAct}, {2, lists(acts(spy.Load(1)), acts(kind), acts(addr)), api.ErrAct}, {2, lists(acts(api.Act{Kind: 6, Addr: 9})), api.ErrAct}, {2, lists(acts(api.Act{Kind: -1, Addr: -1})), api.ErrAct}, {2, lists(acts(api.Act{Kind: math.MaxInt})), api.ErrAct}, {2, lists(acts(api.Act{Kind: math.MinInt})), api.ErrAct},
		{2, lists(acts(spy.Load(1), addr, kind)), api.ErrAddr}, {2, lists(acts(spy.Load(1)), acts(addr), acts(kind)), api.ErrAddr}, {0, lists(acts(fence, spy.Store(0, 1))), api.ErrAddr},
		{8, lists(acts(spy.Store(8, 1))), api.ErrAddr}, {8, lists(acts(spy.CAS(-1, 1, 1))), api.ErrAddr}, {8, lists(acts(spy.Add(math.MaxInt, 1))), api.ErrAddr}, {8, lists(acts(spy.Load(math.MinInt))), api.ErrAddr},
		{2, lists(nil, nil, six, nil), api.OK},
	} {
		if picks, found, err := buffers.Weak(c.size, c.lists); err != c.err || found || len(picks) != 0 {
			t.Errorf("refusal %d: %v, %v, %d, want %d", i, picks, found, err, c.err)
		}
	}
}
