package races_test

import (
	"math"
	"math/rand"
	"slices"
	"sync"
	"testing"

	"plunder/api"
	"plunder/races"
)

// The chapter's examples.
func TestExamples(t *testing.T) {
	for _, c := range []struct {
		deeds string
		race  api.Race
		locs  []int64
	}{
		{"w1 S r1 R r1 Y w1", api.Race{}, nil},
		{"S w1 R r1", api.Race{At: 3, With: 1, Loc: 1}, []int64{1}},
		{"S w1 R Y r1", api.Race{}, nil},
		{"S w1 R S w1 R", api.Race{At: 4, With: 1, Loc: 1}, []int64{1}},
		{"S S w1 R R r1 Y r1", api.Race{At: 5, With: 2, Loc: 1}, []int64{1}},
		{"S r2 R S r2 R w2 w3", api.Race{At: 6, With: 1, Loc: 2}, []int64{2}},
		{"S w5 R w5 w-1 S w-1", api.Race{At: 3, With: 1, Loc: 5}, []int64{5}},
	} {
		race, found, err := races.First(list(c.deeds))
		if race != c.race || found != (c.locs != nil) || err != api.OK {
			t.Errorf("19.4: First(%s) = %v, %v, %d, want %v", c.deeds, race, found, err, c.race)
		}
		if locs, err := races.Detect(list(c.deeds)); !slices.Equal(locs, c.locs) || err != api.OK {
			t.Errorf("19.5: Detect(%s) = %v, %d, want %v", c.deeds, locs, err, c.locs)
		}
	}
	deeds := list("S w1 R r1 Y r1")
	for _, c := range []struct {
		i, j int
		want bool
	}{{1, 3, true}, {1, 5, false}, {0, 1, false}, {2, 3, true}} {
		if is, err := races.Parallel(deeds, c.i, c.j); is != c.want || err != api.OK {
			t.Errorf("19.2: Parallel(S w1 R r1 Y r1, %d, %d) = %v, %d", c.i, c.j, is, err)
		}
	}
}

// 19.1: the first fault, and the length ahead of all.
func TestCheck(t *testing.T) {
	kind := func(k int) []api.Deed {
		return []api.Deed{{Kind: api.DWrite}, {Kind: api.DSync}, {Kind: k}, {Kind: -1}, {Kind: api.DReturn}}
	}
	for _, c := range []struct {
		what  string
		deeds []api.Deed
		want  api.Spot
	}{
		{"nil", nil, api.Spot{}},
		{"none", []api.Deed{}, api.Spot{}},
		{"all kinds", list("S R Y r1 w1"), api.Spot{}},
		{"the root returns at once", list("R"), api.Spot{Err: api.ErrDeed}},
		{"the root returns", list("S R R"), api.Spot{Err: api.ErrDeed, At: 2}},
		{"the root returns behind a sync", list("S S R Y R Y R S"), api.Spot{Err: api.ErrDeed, At: 6}},
		{"tasks that have not returned", list("S S S"), api.Spot{}},
		{"a kind below", kind(-1), api.Spot{Err: api.ErrDeed, At: 2}},
		{"a kind above", kind(5), api.Spot{Err: api.ErrDeed, At: 2}},
		{"the least kind", kind(math.MinInt), api.Spot{Err: api.ErrDeed, At: 2}},
		{"the greatest kind", kind(math.MaxInt), api.Spot{Err: api.ErrDeed, At: 2}},
		{"a return ahead of a wrong kind", []api.Deed{{Kind: api.DReturn}, {Kind: 9}}, api.Spot{Err: api.ErrDeed}},
		{"a wrong kind ahead of a return", []api.Deed{{Kind: 9}, {Kind: api.DReturn}}, api.Spot{Err: api.ErrDeed}},
		{"the most deeds", make([]api.Deed, api.MaxDeeds), api.Spot{}},
		{"a fault in the last of the most", append(make([]api.Deed, api.MaxDeeds-1), api.Deed{Kind: 5}), api.Spot{Err: api.ErrDeed, At: api.MaxDeeds - 1}},
		{"one more", make([]api.Deed, api.MaxDeeds+1), api.Spot{Err: api.ErrLong}},
		{"one more, and a fault", append(list("R"), make([]api.Deed, api.MaxDeeds)...), api.Spot{Err: api.ErrLong}},
	} {
		if got := races.Check(c.deeds); got != c.want {
			t.Errorf("19.1: %s: Check = %v, want %v", c.what, got, c.want)
		}
		refuses(t, c.what, c.deeds, c.want.Err)
	}
}

// refuses holds the errors of the other calls against Check's, which comes ahead of theirs.
func refuses(t *testing.T, what string, deeds []api.Deed, want api.Errno) {
	t.Helper()
	for _, at := range []int{0, -1, len(deeds)} {
		first := want
		if first == api.OK && (at < 0 || at >= len(deeds)) {
			first = api.ErrArg
		}
		if is, err := races.Parallel(deeds, at, at); is || err != first {
			t.Errorf("19.2: %s: Parallel(.., %d, %d) = %v, %d, want %d", what, at, at, is, err, first)
		}
	}
	if a, b, err := races.Orders(deeds); err != want || want != api.OK && len(a)+len(b) > 0 {
		t.Errorf("19.3: %s: Orders = %d and %d numbers, %d, want %d", what, len(a), len(b), err, want)
	}
	if race, found, err := races.First(deeds); err != want || want != api.OK && (found || race != api.Race{}) {
		t.Errorf("19.4: %s: First = %v, %v, %d, want %d", what, race, found, err, want)
	}
	if locs, err := races.Detect(deeds); err != want || want != api.OK && len(locs) > 0 {
		t.Errorf("19.5: %s: Detect = %v, %d, want %d", what, locs, err, want)
	}
}

// 19.4, 19.5, R4: of a list that has a race ahead of its fault nothing is told.
func TestRaceAheadOfFault(t *testing.T) {
	refuses(t, "a race, then a fault", list("S w1 R w1 R"), api.ErrDeed)
	refuses(t, "a race in too many", append(list("S w1 R w1"), make([]api.Deed, api.MaxDeeds)...), api.ErrLong)
}

// 19.2: numbers of no deed.
func TestParallelNumbers(t *testing.T) {
	deeds := list("S w1 R r1")
	for _, bad := range []int{-1, 4, math.MinInt, math.MaxInt} {
		for _, c := range [][2]int{{bad, 1}, {1, bad}, {bad, bad}} {
			if is, err := races.Parallel(deeds, c[0], c[1]); is || err != api.ErrArg {
				t.Errorf("19.2: Parallel(.., %d, %d) = %v, %d", c[0], c[1], is, err)
			}
		}
	}
	if is, err := races.Parallel(deeds, 3, 0); is || err != api.OK {
		t.Errorf("19.2: Parallel(.., 3, 0) = %v, %d", is, err)
	}
}

// holds holds all calls against the model; of large lists only some pairs.
func holds(t *testing.T, deeds []api.Deed, m *model, pairs [][2]int) {
	t.Helper()
	if s := races.Check(deeds); s != (api.Spot{}) {
		t.Fatalf("19.1: Check(%s) = %v", text(deeds), s)
	}
	want, there := m.first()
	if race, found, err := races.First(deeds); race != want || found != there || err != api.OK {
		t.Fatalf("19.4: First(%s) = %v, %v, %d, want %v, %v", text(deeds), race, found, err, want, there)
	}
	if locs, err := races.Detect(deeds); !slices.Equal(locs, m.racy()) || err != api.OK {
		t.Fatalf("19.5: Detect(%s) = %v, %d, want %v", text(deeds), locs, err, m.racy())
	}
	for _, p := range pairs {
		if is, err := races.Parallel(deeds, p[0], p[1]); is != m.parallel(p[0], p[1]) || err != api.OK {
			t.Fatalf("19.2: Parallel(%s, %d, %d) = %v, %d", text(deeds), p[0], p[1], is, err)
		}
	}
	ordered(t, deeds, m)
}

// ordered holds what Orders answers against the model.
func ordered(t *testing.T, deeds []api.Deed, m *model) {
	t.Helper()
	a, b, err := races.Orders(deeds)
	if err != api.OK {
		t.Fatalf("19.3: Orders(%s): %d", text(deeds), err)
	}
	p, q := placesIn(a, len(deeds)), placesIn(b, len(deeds))
	if p == nil || q == nil {
		t.Fatalf("19.3: Orders(%s) = %v, %v: not each number once", text(deeds), a, b)
	}
	for i := range deeds {
		for j := range deeds {
			if both := p[i] < p[j] && q[i] < q[j]; both != m.ahead(i, j) {
				t.Fatalf("19.3: Orders(%s) = %v, %v: of %d and %d", text(deeds), a, b, i, j)
			}
		}
	}
}

// placesIn tells where each number stands in an order, or nil, if not each of the n stands there once.
func placesIn(order []int, n int) []int {
	places := make([]int, n)
	if len(order) != n {
		return nil
	}
	for k, at := range order {
		if at < 0 || at >= n || places[at] != 0 {
			return nil
		}
		places[at] = k + 1
	}
	return places
}

// allPairs tells all pairs of n numbers.
func allPairs(n int) [][2]int {
	var pairs [][2]int
	for i := range n {
		for j := range n {
			pairs = append(pairs, [2]int{i, j})
		}
	}
	return pairs
}

// 19.1 to 19.5: all lists of up to seven deeds.
func TestShortLists(t *testing.T) {
	letters := list("S R Y r1 w1")
	racy := 0
	var grow func(deeds []api.Deed, depth int)
	grow = func(deeds []api.Deed, depth int) {
		if s := races.Check(deeds); depth < 0 {
			if s != (api.Spot{Err: api.ErrDeed, At: len(deeds) - 1}) {
				t.Fatalf("19.1: Check(%s) = %v", text(deeds), s)
			}
			return
		}
		m := newModel(deeds)
		holds(t, deeds, m, allPairs(len(deeds)))
		if _, there := m.first(); there {
			racy++
		}
		if len(deeds) == 7 {
			return
		}
		for _, d := range letters {
			grow(append(deeds, d), depth+[]int{1, -1, 0, 0, 0}[d.Kind])
		}
	}
	grow(make([]api.Deed, 0, 8), 0)
	if racy < 1000 {
		t.Errorf("too few lists with races: %d", racy)
	}
}

// 19.2 to 19.5: drawn lists.
func TestDrawnLists(t *testing.T) {
	r := rand.New(rand.NewSource(19))
	tally := [2]int{}
	for range 6000 {
		deeds := drawDeeds(r, 1+r.Intn(40), drawWays(r))
		m := newModel(deeds)
		var pairs [][2]int
		for range 40 {
			pairs = append(pairs, [2]int{r.Intn(len(deeds)), r.Intn(len(deeds))})
		}
		holds(t, deeds, m, pairs)
		tally[min(1, len(m.racy()))]++
	}
	if tally[0] < 1000 || tally[1] < 1000 {
		t.Errorf("too few lists without races or with some: %v", tally)
	}
}

// deep is n spawns, one within the other, and as many returns.
func deep(n int) []api.Deed {
	deeds := make([]api.Deed, 2*n)
	for k := range n {
		deeds[n+k].Kind = api.DReturn
	}
	return deeds
}

// 19.2 to 19.5: the longest lists: drawn ones, deepest ones and flattest ones.
func TestLargeLists(t *testing.T) {
	r := rand.New(rand.NewSource(20))
	lists := [][]api.Deed{deep(api.MaxDeeds / 2), make([]api.Deed, api.MaxDeeds)}
	lists = append(lists, append(deep(api.MaxDeeds/2-1), list("Y w1")...), append(list("S w1"), deep(api.MaxDeeds/2-1)...))
	for range 3 {
		lists = append(lists, drawDeeds(r, api.MaxDeeds, drawWays(r)))
	}
	calm := drawWays(r)
	calm.write, calm.places = 1, 1<<20
	lists = append(lists, drawDeeds(r, api.MaxDeeds, calm))
	var flat []api.Deed
	for len(flat) < api.MaxDeeds-1 {
		flat = append(flat, list("S r1 R")...)
	}
	lists = append(lists, flat, append(flat[:len(flat):len(flat)], api.Deed{Kind: api.DWrite, Loc: 1}))
	for _, deeds := range lists {
		holds(t, deeds, newModel(deeds), [][2]int{{0, len(deeds) - 1}, {1, len(deeds) / 2}, {len(deeds) / 2, len(deeds) - 2}})
	}
}

// 19.4, 19.5: places are any numbers; of the kinds without one Loc is not looked at.
func TestPlaces(t *testing.T) {
	deeds := list("S w9223372036854775807 w0 r-1 R w-9223372036854775808 w-1 w0 r9223372036854775807")
	if locs, err := races.Detect(deeds); !slices.Equal(locs, []int64{-1, 0, math.MaxInt64}) || err != api.OK {
		t.Errorf("19.5: Detect = %v, %d", locs, err)
	}
	deeds = []api.Deed{{Kind: api.DSpawn, Loc: 7}, {Kind: api.DWrite, Loc: 8}, {Kind: api.DReturn, Loc: 7}, {Kind: api.DWrite, Loc: 7}, {Kind: api.DSpawn, Loc: 8}, {Kind: api.DSync, Loc: 8}}
	if locs, err := races.Detect(deeds); len(locs) > 0 || err != api.OK {
		t.Errorf("19.5: Detect(%v) = %v, %d", deeds, locs, err)
	}
	deeds = append(deeds, list("S S w7 R Y R w7")...)
	if race, found, _ := races.First(deeds); !found || race != (api.Race{At: 12, With: 8, Loc: 7}) {
		t.Errorf("19.4: First(%v) = %v, %v", deeds, race, found)
	}
}

// 19.10: what is handed in stays as it is, in the room behind its end too; answers are new memory.
func TestMemory(t *testing.T) {
	r := rand.New(rand.NewSource(21))
	for range 50 {
		deeds := drawDeeds(r, 30, drawWays(r))
		behind := api.Deed{Kind: -5, Loc: 99}
		given := append(slices.Clone(deeds), behind)[:len(deeds)]
		races.Check(given)
		races.Parallel(given, 2, 5)
		a, b, _ := races.Orders(given)
		races.First(given)
		locs, _ := races.Detect(given)
		if !slices.Equal(given, deeds) || given[:len(deeds)+1][len(deeds)] != behind {
			t.Fatalf("19.10: %s was changed", text(deeds))
		}
		a2, b2, locs2 := slices.Clone(a), slices.Clone(b), slices.Clone(locs)
		spoil(a)
		if !slices.Equal(b, b2) {
			t.Fatalf("19.10: the lists of Orders(%s) share memory", text(deeds))
		}
		spoil(b)
		for k := range locs[:cap(locs)] {
			locs[:cap(locs)][k] = -1
		}
		a, b, _ = races.Orders(given)
		locs, _ = races.Detect(given)
		if !slices.Equal(a, a2) || !slices.Equal(b, b2) || !slices.Equal(locs, locs2) {
			t.Fatalf("19.10: of %s another answer, once the first was written into", text(deeds))
		}
	}
}

// spoil writes into a list, and into the room behind its end.
func spoil(order []int) {
	for k := range order[:cap(order)] {
		order[:cap(order)][k] = -1
	}
}

// R2: calls side by side answer as each alone does.
func TestSideBySide(t *testing.T) {
	var all sync.WaitGroup
	for seed := range int64(8) {
		all.Go(func() {
			r := rand.New(rand.NewSource(seed))
			for range 20 {
				deeds := drawDeeds(r, 60, drawWays(r))
				want, there := newModel(deeds).first()
				if race, found, err := races.First(deeds); race != want || found != there || err != api.OK {
					t.Errorf("19.4: First(%s) = %v, %v, %d", text(deeds), race, found, err)
				}
			}
		})
	}
	all.Wait()
}
