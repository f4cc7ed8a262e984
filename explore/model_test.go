package explore_test

import (
	"cmp"
	"math/rand"
	"slices"

	"plunder/api"
)

func acts(a ...api.Act) []api.Act { return a }

func scene(size int, begin []int64, lists ...[]api.Act) api.Scene {
	return api.Scene{Size: size, Begin: begin, Lists: lists}
}

func ints(n ...int) []int { return n }

func same[T comparable](a, b [][]T) bool {
	return slices.EqualFunc(a, b, func(x, y []T) bool { return slices.Equal(x, y) })
}

func cloned[T any](lists [][]T) [][]T {
	l := make([][]T, len(lists))
	for i := range lists {
		l[i] = slices.Clone(lists[i])
	}
	return l
}

func sameEnd(a, b api.Ending) bool {
	return same(a.Effects, b.Effects) && slices.Equal(a.Cells, b.Cells)
}

// scripts tells all scripts of a scene, in rising order.
func scripts(s api.Scene) [][]int {
	var all [][]int
	var extend func(picks []int, left []int)
	extend = func(picks, left []int) {
		whole := true
		for who := range left {
			if left[who] > 0 {
				whole = false
				left[who]--
				extend(append(slices.Clone(picks), who), left)
				left[who]++
			}
		}
		if whole {
			all = append(all, picks)
		}
	}
	left := make([]int, len(s.Lists))
	for who, list := range s.Lists {
		left[who] = len(list)
	}
	extend(nil, left)
	return all
}

// row tells the act at each place of a script.
func row(s api.Scene, picks []int) []api.Act {
	var r []api.Act
	next := make([]int, len(s.Lists))
	for _, who := range picks {
		r = append(r, s.Lists[who][next[who]])
		next[who]++
	}
	return r
}

// cell tells which cell an act touches, -1 if it touches none.
func cell(s api.Scene, a api.Act) int {
	if a.Kind < api.AcLoad || a.Kind > api.AcAdd || a.Addr >= s.Size {
		return -1
	}
	return max(a.Addr, -1)
}

// depends is 22.3.
func depends(s api.Scene, x, y api.Act) bool {
	for _, p := range [][2]api.Act{{x, y}, {y, x}} {
		a, b := p[0], p[1]
		if at := cell(s, a); at >= 0 && at == cell(s, b) && a.Kind != api.AcLoad {
			return true
		}
		if a.Kind != api.AcReserve || a.A < 1 {
			continue
		}
		if b.Kind == api.AcReserve && b.A >= 1 || cell(s, b) >= len(s.Begin) {
			return true
		}
	}
	return false
}

// traces tells for each of all scripts the number of its trace, by what may change places (22.4). The traces are numbered as their first scripts stand.
func traces(s api.Scene, all [][]int) []int {
	key := func(picks []int) string {
		b := make([]byte, len(picks))
		for i, who := range picks {
			b[i] = byte(who)
		}
		return string(b)
	}
	where := map[string]int{}
	for i, picks := range all {
		where[key(picks)] = i
	}
	trace := slices.Repeat(ints(-1), len(all))
	met := 0
	for i := range all {
		if trace[i] >= 0 {
			continue
		}
		trace[i] = met
		for work := ints(i); len(work) > 0; {
			picks := slices.Clone(all[work[0]])
			work = work[1:]
			r := row(s, picks)
			for k := 1; k < len(picks); k++ {
				if picks[k-1] == picks[k] || depends(s, r[k-1], r[k]) {
					continue
				}
				picks[k-1], picks[k] = picks[k], picks[k-1]
				if to := where[key(picks)]; trace[to] < 0 {
					trace[to] = met
					work = append(work, to)
				}
				picks[k-1], picks[k] = picks[k], picks[k-1]
			}
		}
		met++
	}
	return trace
}

// form is 22.5.
func form(s api.Scene, picks []int) (steps [][]int, ofAct []int) {
	r := row(s, picks)
	for i, who := range picks {
		step := 1
		for k := range i {
			if picks[k] == who || depends(s, r[k], r[i]) {
				step = max(step, ofAct[k]+1)
			}
		}
		ofAct = append(ofAct, step)
		if step > len(steps) {
			steps = append(steps, nil)
		}
		steps[step-1] = append(steps[step-1], who)
		slices.Sort(steps[step-1])
	}
	return steps, ofAct
}

// played is 22.2, by the words of chapter 2.
func played(s api.Scene, picks []int) api.Ending {
	end := api.Ending{Effects: make([][]api.Effect, len(s.Lists)), Cells: slices.Clone(s.Begin)}
	r := row(s, picks)
	for i, who := range picks {
		end.Effects[who] = append(end.Effects[who], effect(&end.Cells, s.Size, r[i]))
	}
	return end
}

func effect(held *[]int64, size int, a api.Act) api.Effect {
	e := api.Effect{OK: true}
	if a.Kind == api.AcReserve {
		if a.A < 1 {
			return api.Effect{Err: api.ErrCount}
		}
		if a.A > int64(size-len(*held)) {
			return api.Effect{Err: api.ErrRoom}
		}
		e.V = int64(len(*held))
		*held = append(*held, make([]int64, a.A)...)
		return e
	}
	if a.Addr < 0 || a.Addr >= len(*held) {
		return api.Effect{Err: api.ErrAddr}
	}
	at := &(*held)[a.Addr]
	switch a.Kind {
	case api.AcLoad:
		e.V = *at
	case api.AcStore:
		*at = a.A
	case api.AcCAS:
		e.OK = *at == a.A
		if e.OK {
			*at = a.B
		}
	case api.AcAdd:
		*at += a.A
		e.V = *at
	}
	return e
}

// finals is 22.8, of all scripts.
func finals(s api.Scene, all [][]int) [][]int64 {
	var f [][]int64
	for _, picks := range all {
		held := played(s, picks).Cells
		if !slices.ContainsFunc(f, func(x []int64) bool { return slices.Equal(x, held) }) {
			f = append(f, held)
		}
	}
	slices.SortFunc(f, func(a, b []int64) int {
		if c := cmp.Compare(len(a), len(b)); c != 0 {
			return c
		}
		return slices.Compare(a, b)
	})
	return f
}

// drawnAct is an act, mostly on one of the first cells of a scene. Values are small, so that a CAS often finds what it looks for.
func drawnAct(rng *rand.Rand, size int) api.Act {
	a := api.Act{Who: rng.Intn(9) - 4, Kind: rng.Intn(5), Addr: rng.Intn(max(size, 1)), A: int64(rng.Intn(4)), B: int64(rng.Intn(4))}
	switch rng.Intn(12) {
	case 0:
		a.Addr = outside[rng.Intn(len(outside))]
	case 1:
		a.Addr = size
	case 2:
		a.A = extremes[rng.Intn(len(extremes))]
	}
	return a
}

// drawnScene has so many acts, of so many actors.
func drawnScene(rng *rand.Rand, actors, n int) api.Scene {
	s := api.Scene{Size: rng.Intn(6), Lists: make([][]api.Act, actors)}
	if rng.Intn(8) == 0 {
		s.Size = api.MaxSceneCells
	}
	for range rng.Intn(s.Size + 1) {
		s.Begin = append(s.Begin, int64(rng.Intn(4)))
	}
	busy := min(s.Size, 1+rng.Intn(5))
	for range n {
		who := rng.Intn(actors)
		s.Lists[who] = append(s.Lists[who], drawnAct(rng, busy))
	}
	return s
}
