package worker_test

import (
	"slices"
	"testing"

	"plunder/api"
	"plunder/serial"
)

// fuel suffices for the drawn programs whose runs end at all, most of them.
const fuel = 20000

// life is what has happened to a frame.
type life struct {
	spawned, started, finished, waits bool
	parent                            int
	ped                               int64
	kids                              []int
	node                              int // its task in the tree
}

// laws holds the promises that go through layers against events.
type laws struct {
	*testing.T
	job
	frames map[int]*life
	tree   []api.Node
	bad    bool
}

// lawful: P2, P3, 11.10 and 11.11.
func lawful(t *testing.T, j job, events []api.Event) {
	t.Helper()
	l := &laws{T: t, job: j, frames: map[int]*life{0: {spawned: true, ped: 1, parent: -1}}}
	if tree, err := serial.Tree(j.p, j.args, fuel); err == api.OK {
		l.tree = tree
	}
	halts := 0
	for _, e := range events {
		l.event(e)
		if e.Kind == api.EvHalt {
			halts++
		}
		if l.bad {
			t.Fatalf("%+v: at the event %+v of %v", j, e, events)
		}
	}
	if halts == j.workers {
		l.done(events)
	}
}

func (l *laws) law(holds bool, name string) {
	l.Helper()
	if !holds {
		l.bad = true
		l.Errorf("%s", name)
	}
}

func (l *laws) event(e api.Event) {
	if l.workers == 1 {
		l.law(e.Kind != api.EvSteal && e.Kind != api.EvPark && e.Kind != api.EvWake, "11.10: an event of several workers")
	}
	if e.Kind == api.EvWake || e.Kind == api.EvPark || e.Kind == api.EvHalt || e.Kind == api.EvFull {
		return
	}
	if e.Kind == api.EvSpawn {
		l.spawn(e)
		return
	}
	f := l.frames[e.Frame]
	l.law(f != nil && f.spawned, "P2: an event of a frame that was not spawned")
	if f == nil {
		return
	}
	l.law(!f.waits || e.Kind == api.EvResume, "P3: the next event behind EvWait is not EvResume")
	f.waits = e.Kind == api.EvWait
	switch e.Kind {
	case api.EvStart:
		l.law(e.V == 1 && !f.started, "P2, 11.11: a frame is started twice, or with another mark than 1")
		f.started = true
	case api.EvFinish:
		l.finish(e, f)
	case api.EvPass, api.EvResume:
		for _, c := range f.kids {
			l.law(l.frames[c].finished, "P3: a task goes past its sync ahead of a child's end")
		}
	}
}

func (l *laws) spawn(e api.Event) {
	f := l.frames[e.X]
	l.law(f != nil && f.started && !f.finished && !f.waits && l.frames[e.Frame] == nil, "P2: a spawn by a task that does not run, or of a frame that was there")
	if f == nil {
		return
	}
	l.law(e.V == serial.Ped(f.ped, len(f.kids)), "P2: the pedigree")
	c := &life{spawned: true, parent: e.X, ped: e.V, node: -1}
	for n, node := range l.tree {
		if node.Parent == f.node && node.Index == len(f.kids) {
			c.node = n
		}
	}
	l.law(l.tree == nil || c.node >= 0, "P2: the tree has no such child")
	f.kids = append(f.kids, e.Frame)
	l.frames[e.Frame] = c
}

func (l *laws) finish(e api.Event, f *life) {
	l.law(f.started && !f.finished, "P2: an end ahead of the start, or a second one")
	l.law(e.X == f.parent, "11.4: X of EvFinish is the parent")
	f.finished = true
	if l.tree != nil {
		l.law(l.tree[f.node].V == e.V && l.tree[f.node].Ped == f.ped, "P2: the value is not the task's")
	}
	if v, err := serial.Eval(l.p, l.args, fuel); e.Frame == 0 && err == api.OK {
		l.law(e.V == v.V, "11.10: the root's value is not the serial one")
	}
}

// done: all workers have halted.
func (l *laws) done(events []api.Event) {
	finished := 0
	for _, f := range l.frames {
		if f.finished {
			finished++
		}
	}
	if l.tree != nil && finished != len(l.tree) {
		l.Fatalf("P2: %d tasks are finished of %d: %v", finished, len(l.tree), events)
	}
	if !slices.ContainsFunc(events, func(e api.Event) bool { return e.Kind == api.EvFinish && e.Frame == 0 }) {
		l.Fatalf("P7b: all have halted, the root has not ended: %v", events)
	}
}
