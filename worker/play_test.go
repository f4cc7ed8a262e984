package worker_test

import (
	"math/rand"
	"slices"
	"testing"

	"plunder/api"
	"plunder/laws"
	"plunder/samples"
	"plunder/worker"
)

var small = api.Limits{Frames: 4, First: 2, Most: 4}

func rep(n int, who ...int) []int { return slices.Repeat(who, n) }

// play is worker.Play, held against the model.
func play(t *testing.T, j job, s api.Script) ([]api.Event, []api.Access) {
	t.Helper()
	events, log, err := worker.Play(j.p, j.args, j.workers, j.lim, s)
	wantEvents, wantLog := played(j, s)
	if err != api.OK || !slices.Equal(events, wantEvents) {
		t.Fatalf("11.8: %+v, %v: error %d, events %v, want %v", j, s, err, events, wantEvents)
	}
	if !slices.Equal(log, wantLog) {
		t.Fatalf("11.8: %+v, %v: accesses %v, want %v", j, s, log, wantLog)
	}
	return events, log
}

func access(who, kind, addr int, a, b int64) api.Access {
	return api.Access{Who: who, Kind: kind, Addr: addr, A: a, B: b, OK: true}
}

// 11.8: example 1.
func TestExampleAlone(t *testing.T) {
	events, log := play(t, job{samples.Five(), nil, 1, small}, api.Script{Picks: rep(5, 0)})
	if want := []api.Event{{Kind: api.EvStart, X: -1, V: 1}, {At: 2, Kind: api.EvFinish, X: -1, V: 5}, {At: 3, Kind: api.EvHalt}}; !slices.Equal(events, want) {
		t.Errorf("example 1: %v, want %v", events, want)
	}
	// RESULT is 0, NEXT 1, the root's JOIN 2 and MARK 3; SLEEPERS is 42, DONE 43
	if want := []api.Access{access(0, api.AcAdd, 3, 1, 1), access(0, api.AcStore, 0, 5, 0), access(0, api.AcStore, 43, 1, 0)}; !slices.Equal(log, want) {
		t.Errorf("example 1: %v, want %v", log, want)
	}
}

// 11.8: example 2. Each attempt draws anew, and 0 is drawn behind the last draw.
func TestExampleHunt(t *testing.T) {
	events, log := play(t, job{samples.Five(), nil, 2, small}, api.Script{Picks: rep(4, 1), Draws: []int{3}})
	want := []api.Access{access(1, api.AcLoad, 46, 0, 0), access(1, api.AcLoad, 47, 0, 0), access(1, api.AcLoad, 43, 0, 0), access(1, api.AcLoad, 46, 0, 0)}
	if len(events) != 0 || !slices.Equal(log, want) {
		t.Errorf("example 2: %v, %v, want %v", events, log, want)
	}
}

// 11.8: example 3, access by access.
func TestExampleChild(t *testing.T) {
	events, log := play(t, job{samples.One(), []int64{9}, 1, small}, api.Script{Picks: rep(60, 0)})
	wantEvents := []api.Event{
		{At: 0, Kind: api.EvStart, X: -1, V: 1}, {At: 8, Kind: api.EvSpawn, Frame: 1, V: 1000004}, {At: 10, Kind: api.EvWait},
		{At: 19, Kind: api.EvStart, Frame: 1, X: -1, V: 1}, {At: 20, Kind: api.EvFinish, Frame: 1, V: 9}, {At: 22, Kind: api.EvResume, X: 1},
		{At: 24, Kind: api.EvFinish, X: -1, V: 9}, {At: 25, Kind: api.EvHalt},
	}
	if !slices.Equal(events, wantEvents) {
		t.Errorf("example 3: %v, want %v", events, wantEvents)
	}
	load, store, add := api.AcLoad, api.AcStore, api.AcAdd
	// the deque stands at 45: TOP, BOTTOM, BUF, and the first buffer at 48; JOIN of frame 1 is 12, its MARK 13
	want := []api.Access{
		access(0, add, 3, 1, 1), access(0, add, 1, 1, 2), access(0, add, 2, 1, 2),
		access(0, load, 46, 0, 0), access(0, load, 45, 0, 0), access(0, load, 47, 48, 0), access(0, load, 48, 2, 0), access(0, store, 49, 1, 0), access(0, store, 46, 1, 0),
		access(0, load, 42, 0, 0), access(0, add, 2, -1, 1),
		access(0, load, 46, 1, 0), access(0, load, 47, 48, 0), access(0, store, 46, 0, 0), access(0, load, 45, 0, 0), access(0, load, 48, 2, 0), access(0, load, 49, 1, 0), access(0, api.AcCAS, 45, 0, 1), access(0, store, 46, 1, 0),
		access(0, add, 13, 1, 1), access(0, store, 4, 9, 0), access(0, add, 2, -1, 0), access(0, store, 2, 1, 0),
		access(0, load, 4, 9, 0), access(0, store, 0, 9, 0), access(0, store, 43, 1, 0),
	}
	if !slices.Equal(log, want) {
		t.Errorf("example 3: %v, want %v", log, want)
	}
}

// 11.8: example 4, and a deque that holds the most. The play ends with that step, whoever made it.
func TestExampleFull(t *testing.T) {
	events, log := play(t, job{samples.One(), []int64{9}, 1, api.Limits{Frames: 1, First: 2, Most: 4}}, api.Script{Picks: rep(60, 0)})
	if want := []api.Event{{Kind: api.EvStart, X: -1, V: 1}, {At: 1, Kind: api.EvFull, Frame: -1}}; !slices.Equal(events, want) || len(log) != 2 {
		t.Errorf("example 4: %v, %v, want %v", events, log, want)
	}
	events, log = play(t, job{samples.Pair(), nil, 2, api.Limits{Frames: 3, First: 1, Most: 1}}, api.Script{Picks: rep(60, 0, 1, 0)})
	last := events[len(events)-1]
	last.At = 0
	if want := (api.Event{Kind: api.EvFull, Frame: 2, X: 1}); last != want || len(log) >= 60 {
		t.Errorf("11.8: a full deque: %v, %d accesses", events, len(log))
	}
}

// 11.8: the order of the refusals, and the greatest scripts that are not refused.
func TestPlayRefusals(t *testing.T) {
	long, most := make([]int, api.MaxPicks+1), make([]int, api.MaxPicks)
	none := api.Limits{}
	for i, c := range []struct {
		job
		s   api.Script
		err api.Errno
	}{
		{job{api.Program{}, []int64{1}, 0, none}, api.Script{Picks: long}, api.ErrLong},
		{job{api.Program{}, []int64{1}, 0, none}, api.Script{Draws: long}, api.ErrLong},
		{job{samples.Five(), nil, 1, small}, api.Script{Draws: long}, api.ErrLong},
		{job{api.Program{}, []int64{1}, 0, none}, api.Script{Picks: most, Draws: most}, api.ErrProgram},
		{job{samples.Five(), []int64{1}, 0, none}, api.Script{}, api.ErrArity},
		{job{samples.Five(), nil, 0, none}, api.Script{}, api.ErrWorkers},
		{job{samples.Five(), nil, 65, none}, api.Script{}, api.ErrWorkers},
		{job{samples.Five(), nil, 64, none}, api.Script{}, api.ErrLimits},
		{job{samples.Five(), nil, 64, api.Limits{Frames: 4096, First: 15, Most: 4096}}, api.Script{Picks: most, Draws: most}, api.OK},
		{job{samples.Five(), nil, 1, small}, api.Script{}, api.OK},
	} {
		events, log, err := worker.Play(c.p, c.args, c.workers, c.lim, c.s)
		if err != c.err || err != api.OK && (events != nil || log != nil) {
			t.Errorf("11.8, case %d: %d events, %d accesses, %d, want %d", i, len(events), len(log), err, c.err)
		}
	}
}

// 11.8: nothing is played behind the halt of the last worker, but picks of one that has halted are.
func TestPlayBehindHalts(t *testing.T) {
	// worker 0: start, constant, RESULT, DONE, the flag of worker 1; then it is picked on; worker 1: two loads, a peek
	s := api.Script{Picks: slices.Concat(rep(5, 0), rep(7, 2), rep(3, -1), rep(9, 0, 1))}
	events, log := play(t, job{samples.Five(), nil, 2, small}, s)
	want := []api.Event{{Kind: api.EvStart, X: -1, V: 1}, {At: 2, Kind: api.EvFinish, X: -1, V: 5}, {At: 4, Kind: api.EvHalt}, {At: 14, Who: 1, Kind: api.EvHalt}}
	if !slices.Equal(events, want) || len(log) != 7 {
		t.Errorf("11.8: %v, %d accesses, want %v, 7", events, len(log), want)
	}
}

// 11.8, R3: what is handed in is not changed, and what is handed out is nobody else's.
func TestPlayMemory(t *testing.T) {
	p, args, s := samples.Copied(samples.Fib()), []int64{4, 77}, api.Script{Picks: rep(400, 0, 1, 2), Draws: []int{1, 0, 5, 99}}
	picks := slices.Clone(s.Picks)
	events, log, err := worker.Play(p, args[:1], 3, api.Limits{Frames: 64, First: 1, Most: 64}, api.Script{Picks: s.Picks, Draws: s.Draws[:3]})
	again, log2, _ := worker.Play(p, args[:1], 3, api.Limits{Frames: 64, First: 1, Most: 64}, s)
	if err != api.OK || !samples.Untouched(p, samples.Fib()) || !slices.Equal(args, []int64{4, 77}) || !slices.Equal(s.Picks, picks) || !slices.Equal(s.Draws, []int{1, 0, 5, 99}) {
		t.Errorf("R3: what was handed in has been changed")
	}
	kept, keptLog := slices.Clone(again), slices.Clone(log2)
	for i := range events {
		events[i] = api.Event{}
	}
	for i := range log {
		log[i] = api.Access{}
	}
	_, _ = append(events, api.Event{}), append(log, api.Access{})
	if !slices.Equal(again, kept) || !slices.Equal(log2, keptLog) {
		t.Errorf("R3: two plays share memory")
	}
}

// drawn is a job that is drawn, and a script for it.
func drawn(r *rand.Rand, picks int) (job, api.Script) {
	j := samples.Job(r.Intn, picks)
	return job{j.P, j.Args, j.Workers, j.Lim}, j.S
}

// lawful: P2, P3, 11.10, 11.11 and what else is said of events.
func lawful(t *testing.T, j job, s api.Script, events []api.Event) {
	t.Helper()
	laws.Check(t, api.Job{P: j.p, Args: j.args, Workers: j.workers, Lim: j.lim, S: s}, events)
	if t.Failed() {
		t.FailNow()
	}
}

// 11.8: drawn plays.
func TestPlayDrawn(t *testing.T) {
	r := rand.New(rand.NewSource(11))
	seen := map[int]int{}
	for range 3000 {
		j, s := drawn(r, 1500)
		events, _ := play(t, j, s)
		lawful(t, j, s, events)
		for _, e := range events {
			seen[e.Kind]++
		}
	}
	for kind := api.EvStart; kind <= api.EvFull; kind++ {
		if seen[kind] < 50 {
			t.Errorf("only %d events of the kind %d were met", seen[kind], kind)
		}
	}
}

// 11.8: all orders of two workers' steps around the end of a child and its parent's sync.
func TestPlayAllOrders(t *testing.T) {
	j := job{samples.One(), []int64{7}, 2, small}
	ahead := slices.Concat(rep(9, 0), rep(7, 1)) // the child has been pushed, stolen and started; not yet: the wake, and the sync
	const free = 11
	for bits := range 1 << free {
		picks := slices.Clone(ahead)
		for k := range free {
			picks = append(picks, bits>>k&1)
		}
		s := api.Script{Picks: append(picks, rep(30, 0, 1)...)}
		events, _ := play(t, j, s)
		lawful(t, j, s, events)
	}
}

// 11.8: all orders of a push and a wake by one with the rest of another.
func TestPlayAllRests(t *testing.T) {
	j := job{samples.One(), []int64{7}, 2, small}
	ahead := slices.Concat(rep(5, 0), rep(9, 1)) // the push has loaded TOP; the other one has hunted three times
	const free = 12
	for bits := range 1 << free {
		picks := slices.Clone(ahead)
		for k := range free {
			picks = append(picks, bits>>k&1)
		}
		s := api.Script{Picks: append(picks, rep(40, 0, 1)...)}
		events, _ := play(t, j, s)
		lawful(t, j, s, events)
	}
}
