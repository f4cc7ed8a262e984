// Package laws: what the promises of the whole say of a run's events, held against them. Only tests use it.
package laws

import (
	"plunder/api"
	"plunder/serial"
	"plunder/spy"
)

// fuel suffices for the drawn programs whose runs end at all, most of them.
const fuel = 20000

// frame is what has happened to a task.
type frame struct {
	started, finished, waits bool
	parent                   int
	ped                      int64
	kids                     []int
	busy                     int // children that are started and not finished
	node                     int // its number in the tree
}

// laws is a run that is looked at, event by event.
type laws struct {
	t       spy.Reporter
	job     api.Job
	events  []api.Event
	frames  map[int]*frame
	depth   int // 0: the serial run does not come to an end in time
	tree    []api.Node
	kids    [][]int // of each node of the tree
	counts  [api.EvFull + 1]int
	halted  [api.MaxWorkers]bool
	started int // tasks that are started and not finished
	leaves  int // those of them without a child of that kind
	broken  bool
}

// Check holds P2, P3, P7a, P7b, and what follows from chapters 11 and 12, against the events of a run.
func Check(t spy.Reporter, j api.Job, events []api.Event) {
	l := &laws{t: t, job: j, events: events, frames: map[int]*frame{0: {ped: 1, parent: -1}}}
	l.grow()
	for n, e := range events {
		l.place(n, e)
		l.event(e)
		l.counted(e)
		if l.broken {
			t.Errorf("at the event %d, %+v, of %v, of the run %+v", n, e, events, j)
			return
		}
	}
	if l.counts[api.EvHalt] == j.Workers {
		l.done()
	}
}

// grow makes the tree of the serial run, where there is one.
func (l *laws) grow() {
	tree, err := serial.Tree(l.job.P, l.job.Args, fuel)
	if err != api.OK {
		return
	}
	v, _ := serial.Eval(l.job.P, l.job.Args, fuel)
	l.tree, l.depth, l.kids = tree, v.Depth, make([][]int, len(tree))
	for n, node := range tree[1:] {
		l.kids[node.Parent] = append(l.kids[node.Parent], 1+n)
	}
}

func (l *laws) law(holds bool, name string) {
	if !holds {
		l.broken = true
		l.t.Errorf("%s", name)
	}
}

// place: where an event stands, and whose it is.
func (l *laws) place(n int, e api.Event) {
	l.law(e.Kind > api.EvNone && e.Kind <= api.EvFull, "12.4: no kind of events")
	l.law(0 <= e.Who && e.Who < l.job.Workers, "12.4: nobody's event")
	l.law(0 <= e.At && e.At < len(l.job.S.Picks) && (n == 0 || e.At > l.events[n-1].At), "12.4: an event at no pick, or not behind the one ahead of it")
	if l.broken {
		return
	}
	l.law(!l.halted[e.Who], "12.7: an event of a worker behind its halt")
	l.law(n == 0 || l.events[n-1].Kind != api.EvFull, "12.7: an event behind EvFull")
	l.halted[e.Who] = e.Kind == api.EvHalt
}

// counted: what hangs on how many events of some kind there are.
func (l *laws) counted(e api.Event) {
	if l.broken {
		return
	}
	l.counts[e.Kind]++
	spawned := l.counts[api.EvSpawn]
	l.law(l.counts[api.EvSteal] <= spawned && l.counts[api.EvWake] <= spawned && l.counts[api.EvWait] <= spawned, "P7b: more steals, wakes or waits than spawns")
	l.law(e.Kind != api.EvHalt || l.frames[0].finished, "P7b: a halt ahead of the root's end")
	if l.job.Workers == 1 {
		l.law(e.Kind != api.EvSteal && e.Kind != api.EvPark && e.Kind != api.EvWake, "11.10, 12.7: an event of several workers")
	}
	l.law(l.leaves <= l.job.Workers, "P7a: more busy leaves than workers")
	l.law(l.depth == 0 || l.started <= l.job.Workers*l.depth, "P7a: more tasks at a time than workers times the depth")
}

func (l *laws) event(e api.Event) {
	switch e.Kind {
	case api.EvWake, api.EvPark, api.EvHalt, api.EvFull:
		return
	case api.EvSpawn:
		l.spawn(e)
		return
	}
	f := l.frames[e.Frame]
	l.law(f != nil, "P2: an event of a frame that was not spawned")
	if f == nil {
		return
	}
	l.law(f.waits == (e.Kind == api.EvResume), "P3: the next event behind EvWait is not EvResume, or an EvResume stands elsewhere")
	f.waits = e.Kind == api.EvWait
	switch e.Kind {
	case api.EvStart:
		l.start(e, f)
	case api.EvFinish:
		l.finish(e, f)
	case api.EvPass, api.EvResume:
		for _, c := range f.kids {
			l.law(l.frames[c].finished, "P3: a task goes past its sync ahead of a child's end")
		}
	}
}

func (l *laws) spawn(e api.Event) {
	f := l.frames[e.X]
	l.law(f != nil && f.started && !f.finished && !f.waits && l.frames[e.Frame] == nil, "P2: a spawn by a task that does not run, or of a frame that was there")
	l.law(0 < e.Frame && e.Frame < l.job.Lim.Frames, "P5: a frame beyond the limit")
	if f == nil {
		return
	}
	l.law(e.V == serial.Ped(f.ped, len(f.kids)), "P2: the pedigree")
	c := &frame{parent: e.X, ped: e.V}
	if l.tree != nil {
		l.law(len(f.kids) < len(l.kids[f.node]), "P2: the tree has no such child")
		if l.broken {
			return
		}
		c.node = l.kids[f.node][len(f.kids)]
	}
	f.kids = append(f.kids, e.Frame)
	l.frames[e.Frame] = c
}

func (l *laws) start(e api.Event, f *frame) {
	l.law(e.V == 1 && !f.started, "P2, 11.11: a frame is started twice, or with another mark than 1")
	f.started = true
	l.started++
	l.leaves++
	if p := l.frames[f.parent]; p != nil {
		p.busy++
		if p.busy == 1 {
			l.leaves--
		}
	}
}

func (l *laws) finish(e api.Event, f *frame) {
	l.law(f.started && !f.finished && f.busy == 0, "P2: an end ahead of the start, or ahead of a child's end, or a second one")
	l.law(e.X == f.parent, "11.4: X of EvFinish is not the parent")
	if l.tree != nil {
		l.law(l.tree[f.node].V == e.V && l.tree[f.node].Ped == f.ped, "P2, 11.10: the value is not the task's")
	}
	f.finished = true
	l.started--
	l.leaves--
	if p := l.frames[f.parent]; p != nil {
		p.busy--
		if p.busy == 0 {
			l.leaves++
		}
	}
}

// done: all workers have halted.
func (l *laws) done() {
	finished := 0
	for _, f := range l.frames {
		if f.finished {
			finished++
		}
	}
	if finished != len(l.frames) || l.tree != nil && finished != len(l.tree) {
		l.t.Errorf("P2: the run is done, and %d tasks are finished of %d, which the tree has %d of: %v, of the run %+v", finished, len(l.frames), len(l.tree), l.events, l.job)
	}
}
