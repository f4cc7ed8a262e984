package explore_test

import (
	"math"
	"slices"
	"testing"

	"plunder/api"
	"plunder/explore"
	"plunder/spy"
)

var (
	outside  = ints(math.MinInt, -2, -1, api.MaxSceneCells, api.MaxSceneCells+1, math.MaxInt)
	extremes = []int64{math.MinInt64, -1, 0, 1, api.MaxSceneCells, api.MaxSceneCells + 1, math.MaxInt64}
)

// The chapter's scenes.
var (
	apart  = scene(2, []int64{0, 0}, acts(spy.Store(0, 1)), acts(spy.Store(1, 2)))
	clash  = scene(1, []int64{0}, acts(spy.Store(0, 1)), acts(spy.Store(0, 2)))
	twice  = scene(1, []int64{0}, acts(spy.Add(0, 1), spy.Add(0, 1)), acts(spy.Load(0)))
	look   = scene(1, []int64{0}, acts(spy.Load(0), spy.Store(0, 1)), acts(spy.Load(0), spy.Store(0, 1)))
	three  = scene(1, []int64{0}, acts(spy.CAS(0, 0, 1)), acts(spy.CAS(0, 0, 2)), acts(spy.Load(0)))
	grow   = scene(1, nil, acts(spy.Reserve(1)), acts(spy.Store(0, 7)))
	beside = scene(2, []int64{0, 0}, acts(spy.Store(1, 1), spy.Load(0)), acts(spy.Load(0)))
)

// The chapter's examples.
func TestExamples(t *testing.T) {
	for i, c := range []struct {
		s      api.Scene
		least  [][]int
		kin    []int
		finals [][]int64
	}{
		{apart, [][]int{{0, 1}}, ints(2), [][]int64{{1, 2}}},
		{clash, [][]int{{0, 1}, {1, 0}}, ints(1, 1), [][]int64{{1}, {2}}},
		{twice, [][]int{{0, 0, 1}, {0, 1, 0}, {1, 0, 0}}, ints(1, 1, 1), [][]int64{{2}}},
		{look, [][]int{{0, 0, 1, 1}, {0, 1, 0, 1}, {0, 1, 1, 0}, {1, 1, 0, 0}}, ints(1, 2, 2, 1), [][]int64{{1}}},
		{three, [][]int{{0, 1, 2}, {0, 2, 1}, {1, 0, 2}, {1, 2, 0}, {2, 0, 1}, {2, 1, 0}}, ints(1, 1, 1, 1, 1, 1), [][]int64{{1}, {2}}},
		{grow, [][]int{{0, 1}, {1, 0}}, ints(1, 1), [][]int64{{0}, {7}}},
		{beside, [][]int{{0, 0, 1}}, ints(3), [][]int64{{0, 1}}},
		{scene(3, []int64{4, 5}), [][]int{nil}, ints(1), [][]int64{{4, 5}}},
		{scene(3, []int64{4, 5}, nil, acts(), nil, nil), [][]int{nil}, ints(1), [][]int64{{4, 5}}},
		{api.Scene{}, [][]int{nil}, ints(1), [][]int64{nil}},
	} {
		if l, err := explore.Explore(c.s); err != api.OK || !same(l, c.least) {
			t.Errorf("22.7: scene %d: Explore = %v, %d", i, l, err)
		}
		for k, picks := range c.least {
			if n, err := explore.Kin(c.s, picks); n != c.kin[k] || err != api.OK {
				t.Errorf("22.6: scene %d: Kin(%v) = %d, %d", i, picks, n, err)
			}
		}
		if f, err := explore.Finals(c.s); err != api.OK || !same(f, c.finals) {
			t.Errorf("22.8: scene %d: Finals = %v, %d", i, f, err)
		}
	}
	for _, picks := range [][]int{{0, 1, 0, 1}, {1, 0, 0, 1}} {
		if f, err := explore.Foata(look, picks); err != api.OK || !same(f, [][]int{{0, 1}, {0}, {1}}) {
			t.Errorf("22.5: Foata(%v) = %v, %d", picks, f, err)
		}
	}
	if f, err := explore.Foata(twice, ints(0, 1, 0)); err != api.OK || !same(f, [][]int{{0}, {1}, {0}}) {
		t.Errorf("22.5: Foata(0 1 0) = %v, %d", f, err)
	}
	if f, err := explore.Foata(beside, ints(0, 0, 1)); err != api.OK || !same(f, [][]int{{0, 1}, {0}}) {
		t.Errorf("22.5: Foata(0 0 1) = %v, %d", f, err)
	}
	if is, err := explore.Alike(look, ints(1, 0, 0, 1), ints(0, 1, 0, 1)); !is || err != api.OK {
		t.Errorf("22.4: Alike = %v, %d", is, err)
	}
}

// 22.1, R4, R5: what is no scene, and that all calls say so ahead of what they say of picks.
func TestCheck(t *testing.T) {
	ten := slices.Repeat(acts(spy.Load(0)), 10)
	wrong := func(kind int) []api.Act { return acts(spy.Load(0), api.Act{Kind: kind}) }
	for i, c := range []struct {
		s   api.Scene
		err api.Errno
	}{
		{api.Scene{}, api.OK}, {scene(64, make([]int64, 64), ten, nil, nil, nil), api.OK}, {scene(64, nil, ten[:3], ten[:3], ten[:3], ten[:1]), api.OK}, {scene(0, nil, nil, ten), api.OK},
		{scene(1, nil, acts(spy.Load(math.MinInt), spy.Reserve(math.MaxInt), spy.Reserve(-1), spy.Store(5, 1), spy.CAS(0, 1, 1))), api.OK},
		{scene(-1, nil), api.ErrArg}, {scene(65, nil), api.ErrArg}, {scene(math.MinInt, nil), api.ErrArg}, {scene(math.MaxInt, nil), api.ErrArg},
		{scene(65, make([]int64, 66), ten, ten, ten, ten, wrong(5)), api.ErrArg}, {scene(-1, make([]int64, 1), wrong(-1)), api.ErrArg},
		{scene(0, make([]int64, 1)), api.ErrLong}, {scene(64, make([]int64, 65)), api.ErrLong}, {scene(1, make([]int64, 2), wrong(5)), api.ErrLong},
		{scene(1, nil, nil, nil, nil, nil, nil), api.ErrLong}, {scene(1, nil, wrong(5), nil, nil, nil, nil), api.ErrLong},
		{scene(1, nil, ten, ten[:1]), api.ErrLong}, {scene(1, nil, wrong(5), nil, nil, ten[:9]), api.ErrLong}, {scene(1, nil, ten[:5], ten[:5], ten[:1], nil), api.ErrLong},
		{scene(1, nil, wrong(5)), api.ErrAct}, {scene(1, nil, wrong(-1)), api.ErrAct}, {scene(1, nil, wrong(math.MinInt)), api.ErrAct}, {scene(1, nil, nil, ten[:8], nil, wrong(math.MaxInt)), api.ErrAct},
	} {
		if err := explore.Check(c.s); err != c.err {
			t.Errorf("22.1: scene %d: Check = %d, want %d", i, err, c.err)
		}
		l, err := explore.Explore(c.s)
		f, err2 := explore.Finals(c.s)
		if err != c.err || err2 != c.err || c.err != api.OK && len(l)+len(f) != 0 {
			t.Errorf("22.7, 22.8: scene %d: Explore, Finals: %d, %d, want %d", i, err, err2, c.err)
		}
		want := c.err
		if want == api.OK {
			want = api.ErrOrder
		}
		for _, picks := range [][]int{{9}, {-1, 0}, make([]int, 11)} {
			refuses(t, c.s, picks, want)
		}
	}
}

// refuses holds all calls that take picks to an error.
func refuses(t *testing.T, s api.Scene, picks []int, want api.Errno) {
	t.Helper()
	if end, err := explore.Run(s, picks); err != want || end.Effects != nil || end.Cells != nil {
		t.Errorf("22.2: Run of %v by %v = %v, %d, want %d", s, picks, end, err, want)
	}
	if f, err := explore.Foata(s, picks); err != want || len(f) != 0 {
		t.Errorf("22.5: Foata of %v by %v = %v, %d, want %d", s, picks, f, err, want)
	}
	if n, err := explore.Kin(s, picks); err != want || n != 0 {
		t.Errorf("22.6: Kin of %v by %v = %v, %d, want %d", s, picks, n, err, want)
	}
	for _, p := range [][]int{picks, oneByOne(s)} {
		one, err := explore.Alike(s, p, picks)
		other, err2 := explore.Alike(s, picks, p)
		if err != want || err2 != want || one || other {
			t.Errorf("22.4: Alike of %v for %v, %v = %v, %d, %v, %d, want %d", s, p, picks, one, err, other, err2, want)
		}
	}
}

// oneByOne is the script that lets each actor do all of its acts at once.
func oneByOne(s api.Scene) []int {
	var picks []int
	for who, list := range s.Lists {
		picks = append(picks, slices.Repeat(ints(who), len(list))...)
	}
	return picks
}

// 22.2: all rows of numbers up to one more than the acts are, those that are scripts and those that are none.
func TestScripts(t *testing.T) {
	for _, s := range []api.Scene{{}, scene(1, nil, nil), apart, twice, look, three, scene(2, []int64{3}, acts(spy.Add(0, 1)), nil, acts(spy.Load(0), spy.Load(1)))} {
		all := scripts(s)
		for _, picks := range rows(len(all[0])+1, len(s.Lists)) {
			if !slices.ContainsFunc(all, func(p []int) bool { return slices.Equal(p, picks) }) {
				refuses(t, s, picks, api.ErrOrder)
			} else if _, err := explore.Run(s, picks); err != api.OK {
				t.Errorf("22.2: Run of %v by %v: %d", s, picks, err)
			}
		}
	}
	for _, bad := range ints(math.MinInt, -2, 2, 3, math.MaxInt) { // picks are not reduced
		refuses(t, clash, ints(0, bad), api.ErrOrder)
		refuses(t, clash, ints(bad, 1), api.ErrOrder)
	}
	refuses(t, clash, make([]int, 1<<20), api.ErrOrder)
	refuses(t, api.Scene{}, make([]int, 1<<20), api.ErrOrder)
}

// rows tells all rows of the numbers from -1 to most, up to a length.
func rows(length, most int) [][]int {
	all := [][]int{nil}
	for from := 0; length > 0; length-- {
		to := len(all)
		for _, r := range all[from:to] {
			for n := -1; n <= most; n++ {
				all = append(all, append(slices.Clone(r), n))
			}
		}
		from = to
	}
	return all
}

// 22.3: of all kinds of acts, of scenes that are refused too.
func TestDepends(t *testing.T) {
	var all []api.Act
	for _, kind := range ints(math.MinInt, -1, 0, 1, 2, 3, 4, 5, 6, math.MaxInt) {
		for _, addr := range ints(math.MinInt, -1, 0, 1, 2, 3, 64, 65, math.MaxInt) {
			for _, a := range []int64{math.MinInt64, -1, 0, 1, 2, math.MaxInt64} {
				all = append(all, api.Act{Who: addr, Kind: kind, Addr: addr, A: a, B: a})
			}
		}
	}
	for _, size := range ints(math.MinInt, -1, 0, 1, 2, 3, 64, 65, math.MaxInt) {
		for begin := range 4 {
			s := scene(size, make([]int64, begin), acts(api.Act{Kind: 9}), nil, nil, nil, nil)
			for _, x := range all {
				for _, y := range all {
					if is := explore.Depends(s, x, y); is != depends(s, x, y) || is != explore.Depends(s, y, x) {
						t.Fatalf("22.3: size %d, %d begin: Depends(%+v, %+v) = %v", size, begin, x, y, is)
					}
				}
			}
		}
	}
}

// 22.3, as it is told there: not by the model's words.
func TestDependsTable(t *testing.T) {
	s := scene(4, []int64{0, 0})
	bad := api.Act{Kind: api.AcFence}
	for i, c := range []struct {
		x, y api.Act
		want bool
	}{
		{spy.Load(1), spy.Load(1), false}, {spy.Load(1), spy.Store(1, 0), true}, {spy.Load(1), spy.CAS(1, 5, 6), true}, {spy.Load(1), spy.Add(1, 0), true}, {spy.Load(3), spy.Load(3), false},
		{spy.Store(3, 1), spy.Store(3, 1), true}, {spy.CAS(0, 1, 1), spy.CAS(0, 2, 2), true}, {spy.Add(0, 1), spy.Add(0, 1), true}, {spy.Add(0, 1), spy.Add(1, 1), false},
		{spy.Store(4, 1), spy.Store(4, 1), false}, {spy.Store(-1, 1), spy.Store(-1, 1), false},
		{spy.Reserve(1), spy.Reserve(1), true}, {spy.Reserve(0), spy.Reserve(1), false}, {spy.Reserve(-1), spy.Reserve(-1), false}, {spy.Reserve(99), spy.Reserve(1), true},
		{spy.Reserve(1), spy.Load(1), false}, {spy.Reserve(1), spy.Load(2), true}, {spy.Reserve(1), spy.Load(3), true}, {spy.Reserve(1), spy.Load(4), false}, {spy.Reserve(1), spy.Load(-1), false}, {spy.Reserve(0), spy.Load(2), false}, {spy.Reserve(math.MaxInt), spy.CAS(2, 0, 0), true},
		{bad, spy.Store(0, 1), false}, {bad, bad, false}, {bad, spy.Reserve(1), false},
	} {
		if explore.Depends(s, c.x, c.y) != c.want || explore.Depends(s, c.y, c.x) != c.want {
			t.Errorf("22.3: case %d: Depends(%+v, %+v) is not %v", i, c.x, c.y, c.want)
		}
	}
}

// 22.2: acts that are refused, cells that are reserved on the way, and who an act says it is of.
func TestRun(t *testing.T) {
	yes := func(v int64) api.Effect { return api.Effect{V: v, OK: true} }
	no := func(err api.Errno) api.Effect { return api.Effect{Err: err} }
	growing := scene(4, []int64{math.MaxInt64}, acts(spy.Load(1), spy.Reserve(2), spy.Reserve(2), spy.Reserve(0)), nil, acts(spy.Add(0, 1), spy.Store(2, 5), spy.CAS(1, 0, 3), spy.CAS(1, 0, 4)))
	growing.Lists[0][0].Who = 77
	growing.Lists[2][0].Who = -1
	for i, c := range []struct {
		s     api.Scene
		picks []int
		want  api.Ending
	}{
		{growing, ints(0, 0, 0, 0, 2, 2, 2, 2), api.Ending{Effects: [][]api.Effect{{no(api.ErrAddr), yes(1), no(api.ErrRoom), no(api.ErrCount)}, nil, {yes(math.MinInt64), yes(0), yes(0), {}}}, Cells: []int64{math.MinInt64, 3, 5}}},
		{growing, ints(2, 2, 2, 2, 0, 0, 0, 0), api.Ending{Effects: [][]api.Effect{{no(api.ErrAddr), yes(1), no(api.ErrRoom), no(api.ErrCount)}, nil, {yes(math.MinInt64), no(api.ErrAddr), no(api.ErrAddr), no(api.ErrAddr)}}, Cells: []int64{math.MinInt64, 0, 0}}},
		{growing, ints(0, 2, 0, 2, 2, 0, 2, 0), api.Ending{Effects: [][]api.Effect{{no(api.ErrAddr), yes(1), no(api.ErrRoom), no(api.ErrCount)}, nil, {yes(math.MinInt64), yes(0), yes(0), {}}}, Cells: []int64{math.MinInt64, 3, 5}}},
		{three, ints(1, 2, 0), api.Ending{Effects: [][]api.Effect{{{}}, {yes(0)}, {yes(2)}}, Cells: []int64{2}}},
		{grow, ints(1, 0), api.Ending{Effects: [][]api.Effect{{yes(0)}, {no(api.ErrAddr)}}, Cells: []int64{0}}},
		{scene(2, []int64{8}, nil, nil), nil, api.Ending{Effects: make([][]api.Effect, 2), Cells: []int64{8}}},
		{api.Scene{}, nil, api.Ending{}},
	} {
		if end, err := explore.Run(c.s, c.picks); err != api.OK || !sameEnd(end, c.want) {
			t.Errorf("22.2: case %d: Run = %v, %d, want %v", i, end, err, c.want)
		}
	}
}
