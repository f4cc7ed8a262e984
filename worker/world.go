// Package worker: the workers' step machines: see doc/11-worker.md.
package worker

import (
	"slices"

	"plunder/api"
	"plunder/cells"
	"plunder/deque"
	"plunder/frames"
	"plunder/park"
	"plunder/prog"
	"plunder/script"
	"plunder/tasks"
)

// none stands where no frame is, and no worker.
const none = -1

// root is the root's frame: it is the first that is taken.
const root = 0

// part is a frame's private part. Only the frame's holder touches it: whoever comes to hold the frame has come to it through the cells, behind all that the last holder did.
type part struct {
	tasks.Task
	parent int // its parent's frame
	slot   int // the slot of its parent that its value comes into
}

// common is what the workers share. Behind New only the parts change, each by its holder, and what the root has come to.
type common struct {
	mem    cells.Mem
	funcs  []api.Func
	result int // the address of RESULT
	table  frames.Table
	lot    park.Lot
	deques []deque.Deque // by worker
	parts  []part        // by frame
	value  int64         // the root's
	left   bool          // whether the root has left it
}

// World is a program that is being run: its frames, its deques, its workers.
type World struct {
	common
	workers []worker
}

// Need tells how many cells a world takes.
func Need(workers int, lim api.Limits) int {
	if !workersFit(workers) || !limitsFit(lim) {
		return 0
	}
	return 1 + frames.Cells(lim.Frames) + park.Cells(workers) + workers*deque.Cells(lim.First, lim.Most)
}

// New lays a world into fresh cells. Nothing has been run yet.
func New(m cells.Mem, p api.Program, args []int64, workers int, lim api.Limits) (*World, api.Errno) {
	if m == nil {
		return nil, api.ErrNil
	}
	if err := refusal(p, args, workers, lim); err != api.OK {
		return nil, err
	}
	w := &World{common: common{mem: m, funcs: copied(p.Funcs), parts: make([]part, lim.Frames)}}
	if err := w.lay(workers, lim); err != api.OK {
		return nil, err
	}
	w.parts[root] = part{Task: tasks.Root(args), parent: none}
	w.workers = make([]worker, workers)
	for i := range w.workers {
		w.workers[i] = worker{place: place{common: &w.common, self: i}, holds: none, about: hunting}
	}
	w.workers[0].takes(root, none)
	return w, api.OK
}

func refusal(p api.Program, args []int64, workers int, lim api.Limits) api.Errno {
	switch {
	case prog.Check(p).Err != api.OK:
		return api.ErrProgram
	case len(args) != p.Funcs[0].Params:
		return api.ErrArity
	case !workersFit(workers):
		return api.ErrWorkers
	case !limitsFit(lim):
		return api.ErrLimits
	}
	return api.OK
}

func workersFit(workers int) bool { return 1 <= workers && workers <= api.MaxWorkers }

func limitsFit(lim api.Limits) bool {
	return 1 <= lim.Frames && lim.Frames <= api.MaxFrames && 1 <= lim.First && lim.First <= lim.Most && lim.Most <= api.MaxDeque
}

// copied makes a world's own functions: what becomes of the caller's is not seen.
func copied(funcs []api.Func) []api.Func {
	own := slices.Clone(funcs)
	for f := range own {
		own[f].Code = slices.Clone(own[f].Code)
	}
	return own
}

// lay makes the accesses of New.
func (c *common) lay(workers int, lim api.Limits) (err api.Errno) {
	if c.result, err = c.mem.Reserve(1); err != api.OK {
		return err
	}
	if c.table, err = frames.New(c.mem, lim.Frames); err != api.OK {
		return err
	}
	if c.lot, err = park.New(c.mem, workers); err != api.OK {
		return err
	}
	c.deques = make([]deque.Deque, workers)
	for i := range c.deques {
		if c.deques[i], err = deque.New(c.mem, lim.First, lim.Most); err != api.OK {
			return err
		}
	}
	return c.takeRoot()
}

// noting keeps what an Add is refused with: an op that is broken does not tell it.
type noting struct {
	cells.Mem
	err api.Errno
}

func (n *noting) Add(addr int, d int64) (int64, api.Errno) {
	v, err := n.Mem.Add(addr, d)
	n.err = err
	return v, err
}

// takeRoot takes the first frame. In fresh cells that is the root's.
func (c *common) takeRoot() api.Errno {
	n := noting{Mem: c.mem}
	frames.Step(&n, frames.Alloc(c.table))
	return n.err
}

func (w *World) has(i int) bool { return w != nil && 0 <= i && i < len(w.workers) }

// Step lets a worker make one step.
func (w *World) Step(i int, r script.Rand) (api.Event, api.Errno) {
	if w == nil || r == nil {
		return api.Event{}, api.ErrNil
	}
	if !w.has(i) {
		return api.Event{}, api.ErrArg
	}
	k := &w.workers[i]
	return steps[k.about](k, r), api.OK
}

// Halted tells whether a worker has halted.
func (w *World) Halted(i int) bool { return w.has(i) && w.workers[i].about == halted }

// Holds tells which frame a worker holds, or -1.
func (w *World) Holds(i int) int {
	if !w.has(i) {
		return none
	}
	return w.workers[i].holds
}

// Result tells what the program has come to: the entry's value, once it has been left.
func (w *World) Result() (int64, bool) {
	if w == nil {
		return 0, false
	}
	return w.value, w.left
}
