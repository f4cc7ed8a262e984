package explore_test

import (
	"math/rand"
	"slices"
	"testing"

	"plunder/api"
	"plunder/dag"
	"plunder/explore"
	"plunder/spy"
)

// holds holds all calls against the chapter's words, over all scripts of a scene. It tells how many traces there are.
func holds(t *testing.T, rng *rand.Rand, s api.Scene) int {
	t.Helper()
	before := api.Scene{Begin: slices.Clone(s.Begin), Lists: cloned(s.Lists)}
	all := scripts(s)
	trace := traces(s, all)
	var least [][]int
	var kin []int
	for i, n := range trace {
		if n == len(least) {
			least = append(least, all[i])
			kin = append(kin, 0)
		}
		kin[n]++
	}
	if l, err := explore.Explore(s); err != api.OK || !same(l, least) {
		t.Fatalf("22.7, P16: Explore(%v) = %v, %d, want %v", s, l, err, least)
	}
	if f, err := explore.Finals(s); err != api.OK || !same(f, finals(s, all)) {
		t.Fatalf("22.8, 22.11: Finals(%v) = %v, %d, want %v", s, f, err, finals(s, all))
	}
	ends, forms := make([]api.Ending, len(least)), make([][][]int, len(least))
	for i, picks := range all {
		end, err := explore.Run(s, picks)
		if err != api.OK || !sameEnd(end, played(s, picks)) {
			t.Fatalf("22.2: Run(%v, %v) = %v, %d, want %v", s, picks, end, err, played(s, picks))
		}
		if n, err := explore.Kin(s, picks); n != kin[trace[i]] || err != api.OK {
			t.Fatalf("22.6: Kin(%v, %v) = %d, %d, want %d", s, picks, n, err, kin[trace[i]])
		}
		f := formHolds(t, s, picks)
		if i == slices.Index(trace, trace[i]) {
			ends[trace[i]], forms[trace[i]] = end, f
		}
		if !sameEnd(end, ends[trace[i]]) || !same(f, forms[trace[i]]) {
			t.Fatalf("22.10, 22.11: %v: %v and %v are alike", s, picks, least[trace[i]])
		}
	}
	alikeHolds(t, rng, s, all, trace)
	if !slices.Equal(s.Begin, before.Begin) || !same(s.Lists, before.Lists) {
		t.Fatalf("R3: %v was %v", s, before)
	}
	return len(least)
}

// formHolds holds a script's normal form against the chapter's words, and against dag's.
func formHolds(t *testing.T, s api.Scene, picks []int) [][]int {
	t.Helper()
	f, err := explore.Foata(s, picks)
	want, steps := form(s, picks)
	if err != api.OK || !same(f, want) {
		t.Fatalf("22.5: Foata(%v, %v) = %v, %d, want %v", s, picks, f, err, want)
	}
	if is, err := explore.Alike(s, picks, slices.Concat(f...)); !is || err != api.OK {
		t.Fatalf("22.10: %v: %v is not alike to its form %v: %d", s, picks, f, err)
	}
	d := api.Dag{N: len(picks)}
	r := row(s, picks)
	for to := range picks {
		for from := range to {
			if picks[from] == picks[to] || explore.Depends(s, r[from], r[to]) {
				d.Edges = append(d.Edges, api.Edge{From: from, To: to})
			}
		}
	}
	span, _ := dag.Span(d)
	times, _ := dag.Earliest(d)
	if span != len(f) || !slices.Equal(times, steps) {
		t.Fatalf("22.12: %v: the dag of %v has the span %d and the times %v, its form is %v", s, picks, span, times, f)
	}
	return f
}

// alikeHolds looks at all pairs of few scripts, and at some of many.
func alikeHolds(t *testing.T, rng *rand.Rand, s api.Scene, all [][]int, trace []int) {
	t.Helper()
	check := func(i, k int) {
		if is, err := explore.Alike(s, all[i], all[k]); is != (trace[i] == trace[k]) || err != api.OK {
			t.Fatalf("22.4: Alike(%v, %v, %v) = %v, %d", s, all[i], all[k], is, err)
		}
	}
	if len(all) <= 12 {
		for i := range all {
			for k := range all {
				check(i, k)
			}
		}
		return
	}
	for i := range all {
		check(i, rng.Intn(len(all)))
		check(i, slices.Index(trace, trace[i]))
		if i > 0 {
			check(i, i-1)
		}
	}
}

// P16, 22.2 to 22.12: all scenes of some acts on three cells, of which one is there from the beginning: two lists of two acts, and three lists of one.
func TestAllSmallScenes(t *testing.T) {
	rng := rand.New(rand.NewSource(22))
	kinds := acts(spy.Load(0), spy.Store(0, 1), spy.CAS(0, 0, 2), spy.Add(0, 1), spy.Load(1), spy.Store(1, 3), spy.Reserve(1), spy.Reserve(2), spy.Reserve(0), spy.Store(3, 4))
	n := len(kinds)
	met := map[int]int{}
	for code := range n * n * n * n {
		one, other := acts(kinds[code%n], kinds[code/n%n]), acts(kinds[code/n/n%n], kinds[code/n/n/n])
		met[holds(t, rng, scene(3, []int64{0}, one, other))]++
		if code < n*n*n {
			met[holds(t, rng, scene(3, []int64{0}, one[:1], one[1:], other[:1]))]++
		}
	}
	for traces := 1; traces <= 6; traces++ {
		if met[traces] < 20 {
			t.Errorf("only %d scenes have %d traces", met[traces], traces)
		}
	}
}

// P16, 22.2 to 22.12: drawn scenes of up to ten acts.
func TestDrawnScenes(t *testing.T) {
	rng := rand.New(rand.NewSource(23))
	rounds, left := 600, 30000 // so many scripts are gone through
	if testing.Short() {
		left = 10000
	}
	most := 0
	for range rounds {
		s := drawnScene(rng, 1+rng.Intn(api.MaxSceneActors), rng.Intn(api.MaxSceneActs+1))
		n := multinomial(s)
		if n > 3000 || n > left {
			continue
		}
		left -= n
		most = max(most, holds(t, rng, s))
	}
	if most < 100 {
		t.Errorf("none of the scenes has more than %d traces", most)
	}
}

// multinomial tells how many scripts a scene has: the multinomial number of its lists' lengths.
func multinomial(s api.Scene) int {
	n, at := 1, 0
	for _, list := range s.Lists {
		for k := range list {
			at++
			n = n * at / (k + 1)
		}
	}
	return n
}

// 22.6, 22.7, 22.8, 22.9: the greatest scenes: every script is a trace, all are one, and what lies between.
func TestGreatestScenes(t *testing.T) {
	rng := rand.New(rand.NewSource(24))
	for round := range 24 {
		s := api.Scene{Size: api.MaxSceneCells, Begin: make([]int64, api.MaxSceneCells)}
		for who, n := range ints(3, 3, 2, 2) {
			list := make([]api.Act, n)
			for k := range list {
				list[k] = spy.Store(63, int64(10*who+k))
				switch {
				case round == 1:
					list[k].Addr = who
				case round > 1:
					list[k].Addr = rng.Intn(8)
				}
			}
			s.Lists = append(s.Lists, list)
		}
		l, err := explore.Explore(s)
		if err != api.OK || round == 0 && len(l) != multinomial(s) || round == 1 && len(l) != 1 {
			t.Fatalf("22.7: scene %d: %d scripts, %d", round, len(l), err)
		}
		sum := 0
		for i, picks := range l {
			n, err := explore.Kin(s, picks)
			if err != api.OK || i > 0 && slices.Compare(l[i-1], picks) >= 0 {
				t.Fatalf("22.7: scene %d: %v stands at %d, %d", round, picks, i, err)
			}
			sum += n
		}
		if sum != 25200 {
			t.Errorf("22.9: scene %d: the traces have %d scripts", round, sum)
		}
		if round < 2 {
			f, err := explore.Finals(s)
			if want := ints(4, 1)[round]; err != api.OK || len(f) != want || len(f[0]) != api.MaxSceneCells {
				t.Errorf("22.8: scene %d: %d ends, %d, want %d", round, len(f), err, want)
			}
		}
	}
}

// 22.8: fewer cells come first, whatever they hold, and below 0 comes ahead of 0.
func TestFinalsOrder(t *testing.T) {
	s := scene(4, []int64{9}, acts(spy.Reserve(2)), acts(spy.Reserve(3)), acts(spy.Store(0, -1)), acts(spy.Store(0, 1)))
	want := [][]int64{{-1, 0, 0}, {1, 0, 0}, {-1, 0, 0, 0}, {1, 0, 0, 0}}
	if f, err := explore.Finals(s); err != api.OK || !same(f, want) {
		t.Errorf("22.8: Finals = %v, %d, want %v", f, err, want)
	}
}

// R2, R3: what is handed in stays as it is, with the room behind it, and what is handed out is nobody else's.
func TestListsAreNewMemory(t *testing.T) {
	roomy := append(make([]api.Act, 0, 9), spy.Add(0, 1), spy.Load(1))
	behind := roomy[:9]
	for i := range behind[2:] {
		behind[2+i] = api.Act{Who: 7, Kind: 7}
	}
	begin := append(make([]int64, 0, 5), 4, 5)
	s := scene(3, begin, roomy, roomy, acts(spy.Reserve(1), spy.Load(2)))
	picks := append(make([]int, 0, 9), 0, 2, 1, 0, 1, 2)
	kept := [][]int{slices.Clone(picks[:9])}
	keptActs, keptBegin := slices.Clone(behind), slices.Clone(begin[:5])
	for range 3 {
		end, _ := explore.Run(s, picks)
		if !sameEnd(end, played(s, picks)) {
			t.Fatalf("22.2: Run = %v", end)
		}
		spoil(end.Effects, api.Effect{V: 99})
		spoil([][]int64{end.Cells}, 99)
		f, _ := explore.Foata(s, picks)
		if want, _ := form(s, picks); !same(f, want) {
			t.Fatalf("22.5: Foata = %v, want %v", f, want)
		}
		l, _ := explore.Explore(s)
		ends, _ := explore.Finals(s)
		all := scripts(s)
		if !same(ends, finals(s, all)) || len(l) != 1+slices.Max(traces(s, all)) {
			t.Fatalf("22.7, 22.8: Explore = %v, Finals = %v", l, ends)
		}
		if !spoil(f, 99) || !spoil(l, 99) || !spoil(ends, 99) {
			t.Fatalf("R3: two lists of one answer share memory")
		}
	}
	if !same(kept, [][]int{picks[:9]}) || !slices.Equal(behind, keptActs) || !slices.Equal(begin[:5], keptBegin) {
		t.Errorf("R3: what was handed in has changed: %v, %v, %v", picks[:9], behind, begin[:5])
	}
}

// spoil writes into lists, and behind their ends. It tells whether none of that is seen in another one of them.
func spoil[T comparable](lists [][]T, v T) bool {
	for i, list := range lists {
		others := cloned(lists)
		for k := range list {
			list[k] = v
		}
		_ = append(list, v, v)
		others[i] = list
		if !same(lists, others) {
			return false
		}
	}
	return true
}
