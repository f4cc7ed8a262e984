package machine

import (
	"plunder/api"
	"plunder/cells"
	"plunder/script"
	"plunder/worker"
)

// nextCell is NEXT, which counts how often a frame was asked for: a world lays its frames into a new arena right behind its first cell.
const nextCell = 1

// run is a run that is on its way.
type run struct {
	mem     *cells.Arena
	world   *worker.World
	workers int
	frames  int // how many there may be
	steps   int
	counts  [api.EvFull + 1]int // events, by their kind
}

// play makes a run and tells its events as they come.
func play(j api.Job, tell func(api.Event)) api.Outcome {
	r, err := begin(j)
	if err != api.OK {
		return api.Outcome{Kind: api.OutMalformed, Err: err}
	}
	r.through(j.S, tell)
	return r.outcome()
}

func begin(j api.Job) (*run, api.Errno) {
	if len(j.S.Picks) > api.MaxPicks || len(j.S.Draws) > api.MaxPicks {
		return nil, api.ErrLong
	}
	// Where the job is refused there is no need of cells: the world tells why, not the arena.
	m, err := cells.New(worker.Need(j.Workers, j.Lim))
	if err != api.OK {
		return nil, err
	}
	w, err := worker.New(m, j.P, j.Args, j.Workers, j.Lim)
	if err != api.OK {
		return nil, err
	}
	return &run{mem: m, world: w, workers: j.Workers, frames: j.Lim.Frames}, api.OK
}

// through goes through the picks until nothing more can come of them.
func (r *run) through(s api.Script, tell func(api.Event)) {
	draws := script.List(s.Draws)
	for at, i := range script.Each(s, r.workers) {
		e, _ := r.world.Step(i, draws)
		r.steps++
		if e == (api.Event{}) {
			continue
		}
		e.At = at
		tell(e)
		r.counts[e.Kind]++
		if r.done() || r.full() {
			break
		}
	}
}

// done tells whether all workers have halted: each tells that once.
func (r *run) done() bool { return r.counts[api.EvHalt] == r.workers }

// full tells whether a worker is full: in an arena of a world's own that comes of a limit alone, and is told.
func (r *run) full() bool { return r.counts[api.EvFull] > 0 }

func (r *run) outcome() api.Outcome {
	o := api.Outcome{
		Kind:   api.OutEnded,
		Steps:  r.steps,
		Frames: r.allocated(),
		Steals: r.counts[api.EvSteal],
		Waits:  r.counts[api.EvWait],
		Parks:  r.counts[api.EvPark],
		Wakes:  r.counts[api.EvWake],
	}
	switch {
	case r.done():
		o.Kind = api.OutDone
		o.Value, _ = r.world.Result()
	case r.full():
		o.Kind = api.OutFull
	}
	return o
}

// allocated tells how many frames there are. The events do not: a frame is allocated some steps ahead of its spawn's event.
func (r *run) allocated() int {
	asked, _ := r.mem.Load(nextCell)
	return min(int(asked), r.frames)
}
