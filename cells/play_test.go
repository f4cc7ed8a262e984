package cells_test

import (
	"math"
	"slices"
	"testing"

	"plunder/api"
	"plunder/cells"
)

func isEmpty(r api.CellRun) bool { return len(r.Effects) == 0 && len(r.Cells) == 0 && len(r.Log) == 0 }

// 2.9
func TestPlayExample(t *testing.T) {
	r, err := cells.Play(2, []api.Act{
		{Who: 3, Kind: api.AcReserve, A: 1},
		{Who: 4, Kind: api.AcAdd, Addr: 0, A: 5},
		{Who: 4, Kind: api.AcCAS, Addr: 0, A: 4, B: 9},
		{Who: 5, Kind: api.AcLoad, Addr: 1},
		{Who: 5, Kind: 9},
	})
	if want := []api.Effect{{V: 0, OK: true}, {V: 5, OK: true}, {}, {Err: api.ErrAddr}, {Err: api.ErrAct}}; err != api.OK || !slices.Equal(r.Effects, want) {
		t.Errorf("Effects %v, %d, want %v, OK", r.Effects, err, want)
	}
	if want := []int64{5}; !slices.Equal(r.Cells, want) {
		t.Errorf("Cells %v, want %v", r.Cells, want)
	}
	if want := []api.Access{{Who: 3, Kind: api.AcReserve, A: 1, OK: true}, {Who: 4, Kind: api.AcAdd, A: 5, B: 5, OK: true}, {Who: 4, Kind: api.AcCAS, A: 4, B: 9}}; !slices.Equal(r.Log, want) {
		t.Errorf("Log %v, want %v", r.Log, want)
	}
}

// 2.9: each kind of act, taken and refused.
func TestPlayEffects(t *testing.T) {
	r, err := cells.Play(6, []api.Act{
		{Kind: api.AcReserve, Addr: -9, A: 4, B: 7},
		{Kind: api.AcReserve, Addr: 5, A: 1},
		{Kind: api.AcStore, Addr: 2, A: 11, B: 12},
		{Kind: api.AcLoad, Addr: 2, A: 13, B: 14},
		{Kind: api.AcCAS, Addr: 2, A: 11, B: 15},
		{Kind: api.AcAdd, Addr: 2, A: -1, B: 16},
		{Kind: api.AcReserve, A: 0},
		{Kind: api.AcReserve, A: math.MinInt64},
		{Kind: api.AcReserve, A: 2},
		{Kind: api.AcReserve, A: math.MaxInt64},
		{Kind: api.AcStore, Addr: 5, A: 1},
		{Kind: api.AcCAS, Addr: -1},
		{Kind: api.AcAdd, Addr: math.MinInt, A: 1},
		{Kind: -1},
		{Kind: api.AcFence},
		{Kind: math.MinInt},
		{Kind: math.MaxInt},
	})
	want := []api.Effect{
		{V: 0, OK: true}, {V: 4, OK: true}, {OK: true}, {V: 11, OK: true}, {OK: true}, {V: 14, OK: true},
		{Err: api.ErrCount}, {Err: api.ErrCount}, {Err: api.ErrRoom}, {Err: api.ErrRoom},
		{Err: api.ErrAddr}, {Err: api.ErrAddr}, {Err: api.ErrAddr},
		{Err: api.ErrAct}, {Err: api.ErrAct}, {Err: api.ErrAct}, {Err: api.ErrAct},
	}
	if err != api.OK || !slices.Equal(r.Effects, want) {
		t.Errorf("Effects %v, %d\nwant %v, OK", r.Effects, err, want)
	}
	if want := []int64{0, 0, 14, 0, 0}; !slices.Equal(r.Cells, want) {
		t.Errorf("Cells %v, want %v", r.Cells, want)
	}
	if len(r.Log) != 6 {
		t.Errorf("Log %v, want the six accesses that were not refused", r.Log)
	}
}

// 2.9
func TestPlayRefusals(t *testing.T) {
	most := make([]api.Act, api.MaxActs)
	long := make([]api.Act, api.MaxActs+1)
	for _, c := range []struct {
		size int
		acts []api.Act
		want api.Errno
	}{{-1, long, api.ErrArg}, {math.MinInt, nil, api.ErrArg}, {api.MaxCells + 1, most, api.ErrArg}, {math.MaxInt, long, api.ErrArg}, {0, long, api.ErrLong}, {api.MaxCells, long, api.ErrLong}} {
		if r, err := cells.Play(c.size, c.acts); err != c.want || !isEmpty(r) {
			t.Errorf("Play(%d, %d acts) = %v, %d, want nothing, %d", c.size, len(c.acts), r, err, c.want)
		}
	}
	for _, size := range []int{0, 1, api.MaxCells} {
		if r, err := cells.Play(size, nil); err != api.OK || !isEmpty(r) {
			t.Errorf("Play(%d, nil) = %v, %d, want nothing, OK", size, r, err)
		}
		if r, err := cells.Play(size, []api.Act{}); err != api.OK || !isEmpty(r) {
			t.Errorf("Play(%d, no acts) = %v, %d, want nothing, OK", size, r, err)
		}
		r, err := cells.Play(size, most)
		if err != api.OK || len(r.Effects) != api.MaxActs || r.Effects[api.MaxActs-1] != (api.Effect{Err: api.ErrAddr}) || len(r.Cells) != 0 || len(r.Log) != 0 {
			t.Errorf("Play(%d, %d acts): %d effects, %d", size, len(most), len(r.Effects), err)
		}
	}
}

// 2.9, 2.12: a play is what an arena that is watched does, again and again, and leaves its acts alone.
func TestPlayIsAnArena(t *testing.T) {
	d := dice(3)
	for round := range 200 {
		size := d.roll(12)
		acts := make([]api.Act, d.roll(50), 60)
		for i := range acts {
			acts[i] = drawn(&d, size)
			if d.roll(9) == 0 {
				acts[i].Kind += 5 - 10*d.roll(2)
			}
		}
		before := slices.Clone(acts[:cap(acts)])
		a := arena(t, size)
		a.Watch(true)
		var effects []api.Effect
		for _, x := range acts {
			a.Who(x.Who)
			effects = append(effects, act(a, x))
		}
		for range 2 {
			r, err := cells.Play(size, acts)
			if err != api.OK || !slices.Equal(r.Effects, effects) || !slices.Equal(r.Cells, a.Cells()) || !slices.Equal(r.Log, a.Log()) {
				t.Fatalf("round %d: Play(%d, %v) = %v, %d\nwant %v, %v, %v", round, size, acts, r, err, effects, a.Cells(), a.Log())
			}
			for i := range r.Effects {
				r.Effects[i].V = 99
			}
			_ = append(r.Effects, api.Effect{V: 99})
		}
		if !slices.Equal(acts[:cap(acts)], before) {
			t.Fatalf("round %d: the acts were changed", round)
		}
	}
}

// 2.11
func TestCrowdSums(t *testing.T) {
	one := api.Act{Kind: api.AcAdd, A: 1}
	four := []api.Act{one, one, one, one}
	for _, c := range []struct {
		size  int
		lists [][]api.Act
		want  []int64
	}{
		{1, [][]api.Act{four, four, four}, []int64{12}},
		{0, nil, nil},
		{0, [][]api.Act{nil, {}}, nil},
		{3, nil, []int64{0, 0, 0}},
		{3, [][]api.Act{{}, nil}, []int64{0, 0, 0}},
		{2, [][]api.Act{{{Who: 9, Kind: api.AcAdd, Addr: 1, A: math.MaxInt64, B: 4}}, {{Kind: api.AcAdd, Addr: 1, A: 1}}}, []int64{0, math.MinInt64}},
		{3, [][]api.Act{{{Kind: api.AcAdd, Addr: 2, A: -5}}, nil, {{Kind: api.AcAdd, Addr: 0, A: 8}, one}}, []int64{9, 0, -5}},
	} {
		if got, err := cells.Crowd(c.size, c.lists); err != api.OK || !slices.Equal(got, c.want) {
			t.Errorf("Crowd(%d, %v) = %v, %d, want %v, OK", c.size, c.lists, got, err, c.want)
		}
	}
	if got, err := cells.Crowd(api.MaxCells, [][]api.Act{{{Kind: api.AcAdd, Addr: api.MaxCells - 1, A: 6}}}); err != api.OK || len(got) != api.MaxCells || got[0] != 0 || got[api.MaxCells-1] != 6 {
		t.Errorf("Crowd(%d, ..): %d cells, %d", api.MaxCells, len(got), err)
	}
}

// 2.11: with as many as there may be nothing is lost, whatever the schedule; 2.12: and the lists stay.
func TestCrowdLosesNothing(t *testing.T) {
	lists := make([][]api.Act, api.MaxWorkers)
	want := make([]int64, 5)
	d := dice(11)
	for i := range lists {
		lists[i] = make([]api.Act, api.MaxActs)
		for k := range lists[i] {
			lists[i][k] = api.Act{Who: d.roll(9), Kind: api.AcAdd, Addr: d.roll(5), A: int64(d.roll(1000)) - 300}
			want[lists[i][k].Addr] += lists[i][k].A
		}
	}
	before := make([][]api.Act, len(lists))
	for i, list := range lists {
		before[i] = slices.Clone(list)
	}
	for range 3 {
		got, err := cells.Crowd(5, lists)
		if err != api.OK || !slices.Equal(got, want) {
			t.Fatalf("Crowd = %v, %d, want %v, OK", got, err, want)
		}
		got[0] = 1
	}
	for i, list := range lists {
		if !slices.Equal(list, before[i]) {
			t.Errorf("list %d was changed", i)
		}
	}
}

// 2.11: what is wrong, and what of it is told.
func TestCrowdRefusals(t *testing.T) {
	good := api.Act{Kind: api.AcAdd, Addr: 1, A: 1}
	kind := api.Act{Kind: api.AcStore, Addr: 7}
	addr := api.Act{Kind: api.AcAdd, Addr: 2}
	long := make([]api.Act, api.MaxActs+1)
	for i, c := range []struct {
		size  int
		lists [][]api.Act
		want  api.Errno
	}{
		{-1, make([][]api.Act, api.MaxWorkers+1), api.ErrArg},
		{api.MaxCells + 1, [][]api.Act{long}, api.ErrArg},
		{math.MinInt, nil, api.ErrArg},
		{math.MaxInt, [][]api.Act{{kind}}, api.ErrArg},
		{2, append([][]api.Act{{kind}}, make([][]api.Act, api.MaxWorkers)...), api.ErrLong},
		{2, [][]api.Act{{kind}, {addr}, long}, api.ErrLong},
		{2, [][]api.Act{{good}, {good, kind}, {addr}}, api.ErrAct},
		{2, [][]api.Act{{good}, {good, addr}, {kind}}, api.ErrAddr},
		{2, [][]api.Act{{good, addr, kind}}, api.ErrAddr},
		{2, [][]api.Act{{good, kind, addr}}, api.ErrAct},
		{2, [][]api.Act{nil, {}, {good, good, addr}}, api.ErrAddr},
		{2, [][]api.Act{{{Kind: api.AcAdd, Addr: -1}}}, api.ErrAddr},
		{2, [][]api.Act{{{Kind: api.AcAdd, Addr: math.MinInt}}}, api.ErrAddr},
		{2, [][]api.Act{{{Kind: api.AcAdd, Addr: math.MaxInt}}}, api.ErrAddr},
		{0, [][]api.Act{{{Kind: api.AcAdd}}}, api.ErrAddr},
		{2, [][]api.Act{{{Kind: api.AcLoad}}}, api.ErrAct},
		{2, [][]api.Act{{{Kind: api.AcCAS}}}, api.ErrAct},
		{2, [][]api.Act{{{Kind: api.AcReserve, A: 1}}}, api.ErrAct},
		{2, [][]api.Act{{{Kind: -1}}}, api.ErrAct},
		{2, [][]api.Act{{{Kind: api.AcFence}}}, api.ErrAct},
	} {
		if got, err := cells.Crowd(c.size, c.lists); err != c.want || got != nil {
			t.Errorf("refusal %d: Crowd(%d, ..) = %v, %d, want nil, %d", i, c.size, got, err, c.want)
		}
	}
	full := make([][]api.Act, api.MaxWorkers)
	for i := range full {
		full[i] = []api.Act{good}
	}
	if got, err := cells.Crowd(2, full); err != api.OK || !slices.Equal(got, []int64{0, api.MaxWorkers}) {
		t.Errorf("Crowd of %d lists = %v, %d", len(full), got, err)
	}
}
