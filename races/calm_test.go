package races_test

import (
	"math/rand"
	"slices"
	"testing"

	"plunder/api"
	"plunder/races"
)

// 19.6: what is said of the first deeds is said of all.
func TestPrefixes(t *testing.T) {
	r := rand.New(rand.NewSource(196))
	for range 300 {
		deeds := drawDeeds(r, 1+r.Intn(40), drawWays(r))
		race, found, _ := races.First(deeds)
		locs, _ := races.Detect(deeds)
		for n := range deeds {
			part, there, err := races.First(deeds[:n])
			if err != api.OK || there != (found && race.At < n) || there && part != race {
				t.Fatalf("19.6: First of %d of %s = %v, %v, of all %v, %v", n, text(deeds), part, there, race, found)
			}
			few, err := races.Detect(deeds[:n])
			for _, loc := range few {
				if !slices.Contains(locs, loc) {
					t.Fatalf("19.6: Detect of %d of %s = %v, of all %v", n, text(deeds), few, locs)
				}
			}
			if err != api.OK || there != (len(few) > 0) {
				t.Fatalf("19.6: Detect of %d of %s = %v, %d, but First = %v", n, text(deeds), few, err, there)
			}
			samePairs(t, deeds, n, r)
		}
	}
}

// samePairs holds Parallel of the first n deeds against that of all.
func samePairs(t *testing.T, deeds []api.Deed, n int, r *rand.Rand) {
	t.Helper()
	for range min(n, 5) {
		i, j := r.Intn(n), r.Intn(n)
		part, err := races.Parallel(deeds[:n], i, j)
		if all, _ := races.Parallel(deeds, i, j); part != all || err != api.OK {
			t.Fatalf("19.6: Parallel(%d, %d) of %d of %s = %v, %d, of all %v", i, j, n, text(deeds), part, err, all)
		}
	}
}

// 19.6: a fault stays, wherever the list goes on to.
func TestPrefixFaults(t *testing.T) {
	r := rand.New(rand.NewSource(197))
	for range 300 {
		deeds := drawDeeds(r, r.Intn(20), ways{spawn: 1, back: 3, sync: 1, read: 1, write: 1, places: 2})
		at := len(deeds)
		deeds = append(deeds, api.Deed{Kind: 5 + r.Intn(9)})
		for range 10 {
			if s := races.Check(deeds); s != (api.Spot{Err: api.ErrDeed, At: at}) {
				t.Fatalf("19.6: Check(%v) = %v, want %d", deeds, s, at)
			}
			deeds = append(deeds, api.Deed{Kind: r.Intn(12) - 3})
		}
	}
}

// finds tells which write each read finds, if the deeds are done in an order; -1 for none.
func finds(deeds []api.Deed, order []int) []int {
	last := map[int64]int{}
	found := make([]int, len(deeds))
	for _, at := range order {
		switch d := deeds[at]; d.Kind {
		case api.DRead:
			found[at] = last[d.Loc] - 1
		case api.DWrite:
			last[d.Loc] = at + 1
		}
	}
	return found
}

// listed is the order of the list itself.
func listed(n int) []int {
	order := make([]int, n)
	for at := range order {
		order[at] = at
	}
	return order
}

// drawOrder draws an order that keeps what is ahead of what.
func drawOrder(r *rand.Rand, m *model) []int {
	waits := make([]int, len(m.deeds))
	for _, steps := range m.steps {
		for _, to := range steps {
			waits[to]++
		}
	}
	var ready, order []int
	for at, n := range waits {
		if n == 0 {
			ready = append(ready, at)
		}
	}
	for len(ready) > 0 {
		k := r.Intn(len(ready))
		at := ready[k]
		ready = slices.Delete(ready, k, k+1)
		order = append(order, at)
		for _, to := range m.steps[at] {
			if waits[to]--; waits[to] == 0 {
				ready = append(ready, to)
			}
		}
	}
	return order
}

// 19.9: in a list without races each read finds the same write in every order.
func TestCalm(t *testing.T) {
	r := rand.New(rand.NewSource(199))
	calm, other, shaken := 0, 0, 0
	for range 20000 {
		w := drawWays(r)
		w.sync, w.places = 2+r.Intn(4), 1+r.Intn(4)
		deeds := drawDeeds(r, 4+r.Intn(20), w)
		m := newModel(deeds)
		locs, err := races.Detect(deeds)
		if err != api.OK {
			t.Fatalf("19.5: Detect(%s): %d", text(deeds), err)
		}
		want := finds(deeds, listed(len(deeds)))
		for range 5 {
			order := drawOrder(r, m)
			same := slices.Equal(finds(deeds, order), want)
			if len(locs) == 0 && !same {
				t.Fatalf("19.9: %s in the order %v: a read finds another write", text(deeds), order)
			}
			if len(locs) == 0 && len(order) > 0 && !slices.IsSorted(order) {
				other++
			}
			if !same {
				shaken++
			}
		}
		if len(locs) == 0 && slices.Max(want) > 0 {
			calm++
		}
	}
	if calm < 1000 || other < 1000 || shaken < 1000 {
		t.Errorf("too few calm lists %d, other orders %d, or lists that an order shakes %d", calm, other, shaken)
	}
}
