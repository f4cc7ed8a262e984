package machine_test

import (
	"testing"

	"plunder/api"
	"plunder/cells"
	"plunder/frames"
	"plunder/ops"
	"plunder/park"
	"plunder/script"
	"plunder/worker"
)

// replay is a run that is played by hand, step by step, with a look at the cells behind each step.
type replay struct {
	*testing.T
	job   api.Job
	mem   *cells.Arena
	world *worker.World
	rand  script.Rand
	drawn int
	open  []int   // for each worker, frames that it has allocated and whose spawn has not been told
	held  [][]int // for each worker, what its deque held behind each of its steps
	told  [api.EvFull + 1]int
}

func begin(t *testing.T, j api.Job) *replay {
	t.Helper()
	r := &replay{T: t, job: j, rand: script.List(j.S.Draws), open: make([]int, j.Workers), held: make([][]int, j.Workers)}
	var err api.Errno
	r.mem, _ = cells.New(worker.Need(j.Workers, j.Lim))
	if r.world, err = worker.New(r.mem, j.P, j.Args, j.Workers, j.Lim); err != api.OK {
		t.Fatalf("%+v is refused: %d", j, err)
	}
	return r
}

// Draw counts what the workers draw.
func (r *replay) Draw() int {
	r.drawn++
	return r.rand.Draw()
}

func (r *replay) cell(addr int) int {
	v, err := r.mem.Load(addr)
	if err != api.OK {
		r.Fatalf("no cell %d", addr)
	}
	return int(v)
}

// next is NEXT: the frames stand behind RESULT (11.3).
func (r *replay) next() int { return r.cell(1) }

// holds tells how many elements a worker's deque holds.
func (r *replay) holds(i int) int {
	top := 1 + frames.Cells(r.job.Lim.Frames) + park.Cells(r.job.Workers) + i*(4+r.job.Lim.First)
	return r.cell(top+1) - r.cell(top)
}

// step lets a worker make a step, and holds P5 against it.
func (r *replay) step(pick int) api.Event {
	r.Helper()
	i := ops.Mod(pick, r.job.Workers)
	asked := r.next()
	e, _ := r.world.Step(i, r)
	r.told[e.Kind]++
	if r.next() > asked && e.Kind != api.EvFull {
		r.open[i]++
	}
	if e.Kind == api.EvSpawn {
		r.open[i]--
	}
	r.held[i] = append(r.held[i], r.holds(i))
	for k := range r.job.Workers {
		if r.holds(k) > r.job.Lim.Most {
			r.Fatalf("P5: %+v: the deque of %d holds %d", r.job, k, r.holds(k))
		}
	}
	if e.Kind == api.EvFull {
		r.full(e, asked)
	}
	return e
}

// full: a limit is told only where it was reached.
func (r *replay) full(e api.Event, asked int) {
	r.Helper()
	held := r.held[e.Who]
	if e.X == 0 && asked != r.job.Lim.Frames {
		r.Fatalf("P5: %+v: full with %d frames", r.job, asked)
	}
	if e.X == 1 && (len(held) < 3 || held[len(held)-3] != r.job.Lim.Most) {
		r.Fatalf("P5: %+v: full with a deque that held %v", r.job, held)
	}
	if e.X != 0 && e.X != 1 {
		r.Fatalf("P5: %+v: %+v", r.job, e)
	}
}

// over: nothing more is played (12.2).
func (r *replay) over() bool {
	halted := 0
	for i := range r.job.Workers {
		if r.world.Halted(i) {
			halted++
		}
	}
	return halted == r.job.Workers || r.told[api.EvFull] > 0
}

// outcome is 12.3 by its words, behind so many steps.
func (r *replay) outcome(steps int) api.Outcome {
	o := api.Outcome{Kind: api.OutEnded, Steps: steps, Frames: 1 + r.told[api.EvSpawn], Steals: r.told[api.EvSteal], Waits: r.told[api.EvWait], Parks: r.told[api.EvPark], Wakes: r.told[api.EvWake]}
	for _, n := range r.open {
		o.Frames += n
	}
	switch {
	case r.told[api.EvFull] > 0:
		o.Kind = api.OutFull
	case r.over():
		o.Kind = api.OutDone
		o.Value, _ = r.world.Result()
	}
	return o
}

// replayed plays a whole job by hand, and tells how many draws were drawn.
func replayed(t *testing.T, j api.Job) (o api.Outcome, events []api.Event, drawn int) {
	t.Helper()
	r := begin(t, j)
	steps := 0
	for at, pick := range j.S.Picks {
		if r.over() {
			break
		}
		steps++
		if e := r.step(pick); e.Kind != api.EvNone {
			e.At = at
			events = append(events, e)
		}
	}
	return r.outcome(steps), events, r.drawn
}
