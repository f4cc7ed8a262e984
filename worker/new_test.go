package worker_test

import (
	"math"
	"slices"
	"testing"

	"plunder/api"
	"plunder/asm"
	"plunder/cells"
	"plunder/samples"
	"plunder/script"
	"plunder/spy"
	"plunder/worker"
)

func arena(t *testing.T, size int) *cells.Arena {
	t.Helper()
	m, err := cells.New(size)
	if err != api.OK {
		t.Fatalf("an arena of %d cells: %d", size, err)
	}
	return m
}

func limits(frames, first, most int) api.Limits {
	return api.Limits{Frames: frames, First: first, Most: most}
}

// noLimits are limits that may not be.
var noLimits = []api.Limits{
	{}, limits(0, 1, 1), limits(-1, 1, 1), limits(math.MinInt, 1, 1), limits(4097, 1, 1), limits(math.MaxInt, 1, 1),
	limits(1, 0, 1), limits(1, -1, 1), limits(1, 2, 1), limits(1, 0, 0), limits(1, 4096, 4095), limits(1, math.MinInt, math.MaxInt),
	limits(1, 1, 4097), limits(1, 4097, 4097), limits(1, 1, math.MaxInt), limits(1, math.MaxInt, math.MaxInt), limits(1, 1, math.MinInt),
}

var noWorkers = []int{0, -1, 65, math.MinInt, math.MaxInt}

// 11.2
func TestNeed(t *testing.T) {
	for _, c := range []struct {
		workers int
		lim     api.Limits
		want    int
	}{
		{1, limits(1, 1, 1), 1 + 11 + 3 + 5},
		{2, small, 1 + 41 + 4 + 2*(6+5)},
		{3, limits(2, 2, 7), 1 + 21 + 5 + 3*19},
		{64, limits(4096, 4096, 4096), 1 + 40961 + 66 + 64*4100},
		{64, limits(4096, 1, 4096), 1 + 40961 + 66 + 64*(5+8190+12)},
	} {
		if n := worker.Need(c.workers, c.lim); n != c.want {
			t.Errorf("11.2: Need(%d, %v) = %d, want %d", c.workers, c.lim, n, c.want)
		}
	}
	for _, workers := range noWorkers {
		if n := worker.Need(workers, small); n != 0 {
			t.Errorf("11.2: Need(%d, ..) = %d", workers, n)
		}
	}
	for _, lim := range noLimits {
		if n := worker.Need(2, lim); n != 0 {
			t.Errorf("11.2: Need(2, %v) = %d", lim, n)
		}
	}
	for first := 1; first <= 4096; first++ {
		if n := worker.Need(64, limits(4096, first, 4096)); n < 1 || n > api.MaxCells {
			t.Errorf("11.8: no arena has the %d cells that deques from %d on need", n, first)
		}
	}
}

// 11.1: the refusals, the first-named first. None of them makes an access.
func TestNewRefusals(t *testing.T) {
	open := asm.Program(asm.Func(0, 1, 1, asm.Spawn(0, 0, 0), asm.Return(0)))
	for _, c := range []struct {
		job
		err api.Errno
	}{
		{job{api.Program{}, []int64{1}, 0, api.Limits{}}, api.ErrProgram},
		{job{open, nil, 1, small}, api.ErrProgram},
		{job{asm.Program(append(samples.Five().Funcs, open.Funcs...)...), []int64{1}, 65, api.Limits{}}, api.ErrProgram},
		{job{samples.Five(), []int64{1}, 0, api.Limits{}}, api.ErrArity},
		{job{samples.One(), nil, 0, api.Limits{}}, api.ErrArity},
		{job{samples.One(), []int64{1, 2}, 1, small}, api.ErrArity},
	} {
		checkRefusal(t, c.job, c.err)
	}
	for _, workers := range noWorkers {
		checkRefusal(t, job{samples.Five(), nil, workers, api.Limits{}}, api.ErrWorkers)
		checkRefusal(t, job{samples.Five(), nil, workers, small}, api.ErrWorkers)
	}
	for _, lim := range noLimits {
		checkRefusal(t, job{samples.Five(), nil, 1, lim}, api.ErrLimits)
		checkRefusal(t, job{samples.One(), []int64{0}, 64, lim}, api.ErrLimits)
	}
}

func checkRefusal(t *testing.T, j job, want api.Errno) {
	t.Helper()
	m := spy.New(arena(t, 1000))
	if w, err := worker.New(m, j.p, j.args, j.workers, j.lim); w != nil || err != want || len(m.Asked) != 0 {
		t.Errorf("11.1: New(.., %+v): %v, %d, want %d; asked for %v", j, w, err, want, m.Asked)
	}
	if w, err := worker.New(nil, j.p, j.args, j.workers, j.lim); w != nil || err != api.ErrNil {
		t.Errorf("11.1: New(nil, %+v): %v, %d", j, w, err)
	}
}

// 11.3 and 11.1: the accesses of New, behind cells that are another's; what each of them is refused with.
func TestNewAccesses(t *testing.T) {
	want := []api.Act{spy.Reserve(1)}
	want = append(want, spy.Reserve(31), spy.Store(9, 1), spy.Store(19, 1), spy.Store(29, 1))
	want = append(want, spy.Reserve(4))
	want = append(want, spy.Reserve(6), spy.Store(45, 46), spy.Store(46, 2))
	want = append(want, spy.Reserve(6), spy.Store(51, 52), spy.Store(52, 2))
	want = append(want, spy.Add(8, 1))
	j := job{samples.One(), []int64{4}, 2, limits(3, 2, 9)}
	behind := func(refuse int) *spy.Mem {
		a := arena(t, 200)
		a.Reserve(7)
		m := spy.New(a)
		m.Refuse, m.Err = refuse, api.ErrWindow
		return m
	}
	m := behind(math.MaxInt)
	if w, err := worker.New(m, j.p, j.args, j.workers, j.lim); w == nil || err != api.OK || !slices.Equal(m.Asked, want) {
		t.Errorf("11.3: %d, asked for %v, want %v", err, m.Asked, want)
	}
	for n := range want {
		m := behind(n)
		if w, err := worker.New(m, j.p, j.args, j.workers, j.lim); w != nil || err != api.ErrWindow || !slices.Equal(m.Asked, want[:n+1]) {
			t.Errorf("11.1: the access %d refused: %v, %d, asked for %v", n, w, err, m.Asked)
		}
	}
}

// 11.1: an arena that is too small, and objects that are not there.
func TestNewRoom(t *testing.T) {
	// what New reserves is less than Need, as the deques have not grown yet
	for size, want := range map[int]api.Errno{0: api.ErrRoom, 1: api.ErrRoom, 41: api.ErrRoom, 57: api.ErrRoom, 58: api.OK, 59: api.OK} {
		if w, err := worker.New(arena(t, size), samples.Five(), nil, 2, small); err != want || (w == nil) != (err != api.OK) {
			t.Errorf("11.1: %d cells: %d, want %d", size, err, want)
		}
	}
	var noArena *cells.Arena
	var noShared *cells.Shared
	for _, m := range []cells.Mem{noArena, noShared} {
		if w, err := worker.New(m, samples.Five(), nil, 1, small); w != nil || err != api.ErrRoom {
			t.Errorf("11.1: a memory that is not there: %v, %d", w, err)
		}
	}
}

// 11.1: the program and the arguments are not kept, nor changed.
func TestNewKeepsNothing(t *testing.T) {
	p, args := samples.Copied(samples.Fib()), []int64{6, -1}
	w, err := worker.New(arena(t, 10000), p, args[:1], 2, limits(99, 1, 99))
	if err != api.OK || !samples.Untouched(p, samples.Fib()) || args[1] != -1 {
		t.Fatalf("R3: New has changed what it was given, or: %d", err)
	}
	args[0] = 3
	for f := range p.Funcs {
		for i := range p.Funcs[f].Code {
			p.Funcs[f].Code[i] = asm.Return(0)
		}
		p.Funcs[f] = api.Func{}
	}
	if v := toTheEnd(t, w, 2); v != 8 {
		t.Errorf("11.1: what the caller changed has been seen: %d, want 8", v)
	}
}

// toTheEnd lets the workers make steps in turn until all have halted.
func toTheEnd(t *testing.T, w *worker.World, workers int) int64 {
	t.Helper()
	draws := script.Seeded(5)
	for n := range 100000 {
		if _, err := w.Step(n%workers, draws); err != api.OK {
			t.Fatalf("11.4: step %d: %d", n, err)
		}
	}
	for i := range workers {
		if !w.Halted(i) || w.Holds(i) != -1 {
			t.Fatalf("11.6: worker %d has not halted, it holds %d", i, w.Holds(i))
		}
	}
	v, ok := w.Result()
	if !ok {
		t.Errorf("11.6: no result")
	}
	return v
}
