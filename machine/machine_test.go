package machine_test

import (
	"slices"
	"testing"

	"plunder/api"
	"plunder/asm"
	"plunder/machine"
	"plunder/samples"
	"plunder/script"
)

var (
	small = api.Limits{Frames: 4, First: 2, Most: 4}
	wide  = api.Limits{Frames: 64, First: 2, Most: 64}
)

func rep(n int, who ...int) []int { return slices.Repeat(who, n) }

// job is a run by picks.
func job(p api.Program, args []int64, workers int, lim api.Limits, picks []int) api.Job {
	return api.Job{P: p, Args: args, Workers: workers, Lim: lim, S: api.Script{Picks: picks}}
}

// trace is machine.Trace, with machine.Run held against it (12.4).
func trace(t *testing.T, j api.Job) (api.Outcome, []api.Event) {
	t.Helper()
	o, events := machine.Trace(j.P, j.Args, j.Workers, j.Lim, j.S)
	if o2 := machine.Run(j.P, j.Args, j.Workers, j.Lim, j.S); o2 != o {
		t.Fatalf("12.4: %+v: Run tells %+v, Trace %+v", j, o2, o)
	}
	return o, events
}

// 12.2, 12.3: the examples of the chapter, and runs that were worked out by hand.
func TestOutcomes(t *testing.T) {
	five, one, pair := samples.Five(), samples.One(), samples.Pair()
	nine := []int64{9}
	ended := func(steps, frames int) api.Outcome {
		return api.Outcome{Kind: api.OutEnded, Steps: steps, Frames: frames}
	}
	for i, c := range []struct {
		job  api.Job
		want api.Outcome
	}{
		{job(five, nil, 1, small, rep(5, 0)), api.Outcome{Kind: api.OutDone, Value: 5, Steps: 4, Frames: 1}},
		{job(five, nil, 1, small, rep(4, -9)), api.Outcome{Kind: api.OutDone, Value: 5, Steps: 4, Frames: 1}},
		{job(five, nil, 1, small, rep(3, 0)), ended(3, 1)},
		{job(five, nil, 1, small, nil), ended(0, 1)},
		{job(one, nine, 1, small, rep(90, 0)), api.Outcome{Kind: api.OutDone, Value: 9, Steps: 26, Frames: 2, Waits: 1}},
		{job(one, nine, 1, small, rep(25, 0)), api.Outcome{Kind: api.OutEnded, Steps: 25, Frames: 2, Waits: 1}},
		{job(one, nine, 1, api.Limits{Frames: 1, First: 2, Most: 4}, rep(90, 0)), api.Outcome{Kind: api.OutFull, Steps: 2, Frames: 1}},
		// the frame is there with its Alloc, long ahead of the event of its spawn
		{job(one, nine, 1, small, rep(1, 0)), ended(1, 1)},
		{job(one, nine, 1, small, rep(2, 0)), ended(2, 2)},
		{job(one, nine, 1, small, rep(9, 0)), ended(9, 2)},
		// start, a spawn of nine steps; then an Alloc that finds none, or an Alloc, a Fork and four accesses of a push
		{job(pair, nil, 1, api.Limits{Frames: 2, First: 1, Most: 2}, rep(99, 0)), api.Outcome{Kind: api.OutFull, Steps: 11, Frames: 2}},
		{job(pair, nil, 1, api.Limits{Frames: 3, First: 1, Most: 1}, rep(99, 0)), api.Outcome{Kind: api.OutFull, Steps: 16, Frames: 3}},
		{job(pair, nil, 1, api.Limits{Frames: 3, First: 1, Most: 1}, rep(15, 0)), ended(15, 3)},
		// worker 1 tries three times, looks and parks (14 steps); worker 0 starts, spawns and wakes it, which takes three steps; then it waits, and worker 1 steals
		{job(one, nine, 2, small, slices.Concat(rep(14, 1), rep(12, 0))), api.Outcome{Kind: api.OutEnded, Steps: 26, Frames: 2, Parks: 1, Wakes: 1}},
		{job(one, nine, 2, small, slices.Concat(rep(14, 1), rep(13, 0), rep(8, 1))), api.Outcome{Kind: api.OutEnded, Steps: 35, Frames: 2, Steals: 1, Waits: 1, Parks: 1, Wakes: 1}},
		// the last halt is worker 1's; picks of worker 0, which has halted, are steps, too
		{job(five, nil, 2, small, slices.Concat(rep(5, 0), rep(7, 2), rep(3, -1), rep(9, 0, 1))), api.Outcome{Kind: api.OutDone, Value: 5, Steps: 15, Frames: 1}},
		{job(five, nil, 2, small, slices.Concat(rep(5, 0), rep(7, 2), rep(2, -1))), ended(14, 1)},
	} {
		if o, _ := trace(t, c.job); o != c.want {
			t.Errorf("12.3, run %d: %+v, want %+v", i, o, c.want)
		}
	}
}

// 12.3: examples of the whole, 7 and 8. (The program here is without a main: a task fewer.)
func TestExamplesOfTheWhole(t *testing.T) {
	ten, deep := []int64{10}, []int64{1 << 40}
	for workers := 1; workers <= 64; workers *= 2 {
		picks, _ := script.Turns(workers, api.MaxPicks/workers)
		o, _ := trace(t, job(samples.Fib(), ten, workers, api.Limits{Frames: 177, First: 1, Most: 177}, picks))
		if o.Kind != api.OutDone || o.Value != 55 || o.Frames != 177 {
			t.Errorf("P1, P2: %d workers: %+v", workers, o)
		}
		o, _ = trace(t, job(samples.Fib(), ten, workers, api.Limits{Frames: 176, First: 1, Most: 177}, picks))
		if o.Kind != api.OutFull || o.Value != 0 || o.Frames != 176 {
			t.Errorf("P5: %d workers: %+v", workers, o)
		}
		o, _ = trace(t, job(samples.Count(), deep, workers, wide, picks))
		if o.Kind != api.OutEnded || o.Value != 0 || o.Frames != 1 || o.Steps != len(picks) || o.Parks != workers-1 {
			t.Errorf("12.3: a program that does not end, %d workers: %+v", workers, o)
		}
	}
}

// 12.4: the events of example 3, and of a run in which the child is stolen while its parent comes to its sync.
func TestEvents(t *testing.T) {
	_, events := trace(t, job(samples.One(), []int64{9}, 1, small, rep(40, 0)))
	want := []api.Event{
		{At: 0, Kind: api.EvStart, X: -1, V: 1}, {At: 8, Kind: api.EvSpawn, Frame: 1, V: 1000004}, {At: 10, Kind: api.EvWait},
		{At: 19, Kind: api.EvStart, Frame: 1, X: -1, V: 1}, {At: 20, Kind: api.EvFinish, Frame: 1, V: 9}, {At: 22, Kind: api.EvResume, X: 1},
		{At: 24, Kind: api.EvFinish, X: -1, V: 9}, {At: 25, Kind: api.EvHalt},
	}
	if !slices.Equal(events, want) {
		t.Errorf("12.4: %v, want %v", events, want)
	}
	// 0: start, spawn; 1: steal, start, finish (the parent has not come to its sync); 0: wake, sync, load, return, done, the flag of 1; 1: pop, an attempt, a peek
	j := job(samples.One(), []int64{9}, 2, small, slices.Concat(rep(9, 0), rep(9, 1), rep(7, 0), rep(8, 1)))
	o, events := trace(t, j)
	want = []api.Event{
		{At: 0, Kind: api.EvStart, X: -1, V: 1}, {At: 8, Kind: api.EvSpawn, Frame: 1, V: 1000004},
		{At: 14, Who: 1, Kind: api.EvSteal, Frame: 1}, {At: 15, Who: 1, Kind: api.EvStart, Frame: 1, V: 1}, {At: 16, Who: 1, Kind: api.EvFinish, Frame: 1, V: 9},
		{At: 20, Kind: api.EvPass}, {At: 22, Kind: api.EvFinish, X: -1, V: 9}, {At: 24, Kind: api.EvHalt}, {At: 32, Who: 1, Kind: api.EvHalt},
	}
	if o != (api.Outcome{Kind: api.OutDone, Value: 9, Steps: 33, Frames: 2, Steals: 1}) || !slices.Equal(events, want) {
		t.Errorf("12.4: %+v, %v, want %v", o, events, want)
	}
	j.Lim.Frames = 1
	if _, events = trace(t, j); !slices.Equal(events, []api.Event{{Kind: api.EvStart, X: -1, V: 1}, {At: 1, Kind: api.EvFull, Frame: -1}}) {
		t.Errorf("12.4: a table of one frame: %v", events)
	}
}

// 12.1: what is refused, the first-named first; the greatest script that is not.
func TestMalformed(t *testing.T) {
	long, most := make([]int, api.MaxPicks+1), make([]int, api.MaxPicks)
	open := asm.Program(asm.Func(0, 1, 1, asm.Spawn(0, 0, 0), asm.Return(0)))
	five, one, none := samples.Five(), samples.One(), api.Limits{}
	for i, c := range []struct {
		job api.Job
		err api.Errno
	}{
		{job(api.Program{}, []int64{1}, 0, none, long), api.ErrLong},
		{api.Job{S: api.Script{Draws: long}}, api.ErrLong},
		{api.Job{P: five, Workers: 1, Lim: small, S: api.Script{Picks: most, Draws: long}}, api.ErrLong},
		{job(api.Program{}, []int64{1}, 0, none, most), api.ErrProgram},
		{job(open, nil, 1, small, nil), api.ErrProgram},
		{job(open, []int64{1}, 0, none, nil), api.ErrProgram},
		{job(five, []int64{1}, 0, none, nil), api.ErrArity},
		{job(one, nil, 1, small, nil), api.ErrArity},
		{job(one, []int64{1, 2}, 65, none, nil), api.ErrArity},
		{job(five, nil, 0, small, rep(4, 0)), api.ErrWorkers},
		{job(five, nil, 0, none, nil), api.ErrWorkers},
		{job(five, nil, -1, small, nil), api.ErrWorkers},
		{job(five, nil, 65, none, nil), api.ErrWorkers},
		{job(five, nil, 1, none, rep(4, 0)), api.ErrLimits},
		{job(five, nil, 64, api.Limits{Frames: 4097, First: 1, Most: 1}, nil), api.ErrLimits},
		{job(five, nil, 1, api.Limits{Frames: 1, First: 0, Most: 1}, nil), api.ErrLimits},
		{job(five, nil, 1, api.Limits{Frames: 1, First: 2, Most: 1}, nil), api.ErrLimits},
		{job(five, nil, 1, api.Limits{Frames: 1, First: 1, Most: 4097}, nil), api.ErrLimits},
		{job(five, nil, 1, api.Limits{Frames: -1, First: -1, Most: -1}, nil), api.ErrLimits},
	} {
		if o, events := trace(t, c.job); o != (api.Outcome{Kind: api.OutMalformed, Err: c.err}) || len(events) != 0 {
			t.Errorf("12.1, case %d: %+v, %v, want the error %d", i, o, events, c.err)
		}
	}
	j := job(five, nil, 64, api.Limits{Frames: 4096, First: 15, Most: 4096}, most)
	j.S.Draws = most
	if o, _ := trace(t, j); o != (api.Outcome{Kind: api.OutEnded, Steps: api.MaxPicks, Frames: 1}) {
		t.Errorf("12.1: as much as may be: %+v", o)
	}
}

// 12.5, R3: what is handed in is not changed, in the room behind its ends too, and the events are nobody else's.
func TestMemory(t *testing.T) {
	p, args := samples.Copied(samples.Fib()), []int64{4, 77}
	picks, draws := append(rep(300, 0, 1, 5), -1), []int{1, 0, 5, 99}
	kept := slices.Clone(picks)
	j := api.Job{P: p, Args: args[:1], Workers: 3, Lim: wide, S: api.Script{Picks: picks[:900], Draws: draws[:3]}}
	o, events := trace(t, j)
	again, more := trace(t, j)
	if !samples.Untouched(p, samples.Fib()) || !slices.Equal(args, []int64{4, 77}) || !slices.Equal(picks, kept) || !slices.Equal(draws, []int{1, 0, 5, 99}) {
		t.Errorf("R3: what was handed in has been changed")
	}
	if o != again || o.Kind != api.OutDone || !slices.Equal(events, more) {
		t.Errorf("12.5: %+v, %v and then %+v, %v", o, events, again, more)
	}
	told := slices.Clone(more)
	clear(events)
	_ = append(events, api.Event{Kind: api.EvFull})
	if !slices.Equal(more, told) {
		t.Errorf("R3: two traces share memory")
	}
	if _, third := trace(t, j); !slices.Equal(third, told) {
		t.Errorf("R3: what was done to a trace is seen in a later one")
	}
}
