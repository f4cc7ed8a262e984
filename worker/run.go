package worker

import (
	"plunder/api"
	"plunder/deque"
	"plunder/frames"
	"plunder/park"
	"plunder/script"
	"plunder/tasks"
)

// Which limit is reached.
const (
	noFrame = iota
	noRoom
)

// run makes the first step of the next instruction, or the only one. The place of the next instruction is behind it from then on, so that it is right whenever the frame is handed on; a return has none behind it.
func (w *worker) run(r script.Rand) api.Event {
	t := &w.parts[w.holds]
	i := w.funcs[t.Func].Code[t.At]
	if i.Kind == api.IReturn {
		return w.leave(t, t.Regs[i.A])
	}
	t.At++
	switch i.Kind {
	case api.ISpawn:
		return w.alloc(t, i)
	case api.ISync:
		w.framesOp = frames.Sync(w.table, w.holds)
		w.about = syncing
		return w.sync(r)
	case api.ILoad:
		_, t.Regs[i.A] = w.stepFrames(frames.Fetch(w.table, w.holds, i.B))
	default:
		t.Do(i)
	}
	return api.Event{}
}

// alloc takes a frame for a child and makes its private part.
func (w *worker) alloc(t *part, i api.Instr) api.Event {
	switch code, c := w.stepFrames(frames.Alloc(w.table)); code {
	case api.Full:
		w.about = full
		return w.tells(api.EvFull, none, noFrame, 0)
	case api.Got:
		w.child = int(c)
		w.parts[c] = part{Task: t.Child(i, w.funcs[i.B].Params), parent: w.holds, slot: i.A}
		w.about = forking
	}
	return api.Event{}
}

func (w *worker) fork(script.Rand) api.Event {
	if code, _ := w.stepFrames(frames.Fork(w.table, w.holds)); code == api.Forked {
		w.dequeOp = deque.Push(w.own(), int64(w.child))
		w.about = pushing
	}
	return api.Event{}
}

// push makes a step of the child's push. Behind the last one the child may be another's: its pedigree is worked out from its parent's part.
func (w *worker) push(script.Rand) api.Event {
	switch code, _ := w.stepDeque(w.dequeOp); code {
	case api.Full:
		w.about = full
		return w.tells(api.EvFull, w.child, noRoom, 0)
	case api.Pushed:
		w.parkOp = park.Wake(w.lot, w.self)
		w.about = waking
		t := &w.parts[w.holds]
		return w.tells(api.EvSpawn, w.child, w.holds, tasks.Ped(t.Ped, t.Spawned-1))
	}
	return api.Event{}
}

func (w *worker) wake(script.Rand) api.Event {
	switch code, j := w.stepPark(w.parkOp); code {
	case api.Woke:
		w.about = running
		return w.tells(api.EvWake, w.holds, int(j), 0)
	case api.Nobody:
		w.about = running
	}
	return api.Event{}
}

func (w *worker) sync(script.Rand) api.Event {
	frame := w.holds
	switch code, _ := w.stepFrames(w.framesOp); code {
	case api.Waits:
		w.holds = none
		w.pops()
		return w.tells(api.EvWait, frame, 0, 0)
	case api.Synced:
		w.about = running
		return w.tells(api.EvPass, frame, 0, 0)
	}
	return api.Event{}
}

func (w *worker) leave(t *part, v int64) api.Event {
	if t.parent == none {
		return w.leaveResult(v)
	}
	return w.leaveToParent(t, v)
}

// leaveToParent makes the first step of a finish. With it the value is in its slot, and the task has ended.
func (w *worker) leaveToParent(t *part, v int64) api.Event {
	if code, _ := w.stepFrames(frames.Finish(w.table, t.parent, t.slot, v)); code == api.Broken {
		return api.Event{}
	}
	w.child, w.parent, w.holds = w.holds, t.parent, none
	w.about = finishing
	return w.tells(api.EvFinish, w.child, w.parent, v)
}

// leaveResult leaves the root's value. All is done with it, which the others have to be told.
func (w *worker) leaveResult(v int64) api.Event {
	if err := w.mem.Store(w.result, v); err != api.OK {
		w.about = full
		return api.Event{}
	}
	w.value, w.left = v, true
	w.holds = none
	w.parkOp = park.Finish(w.lot, w.self)
	w.about = ending
	return w.tells(api.EvFinish, root, none, v)
}

func (w *worker) finish(script.Rand) api.Event {
	switch code, _ := w.stepFrames(w.framesOp); code {
	case api.More:
		w.pops()
	case api.Last:
		w.holds = w.parent
		w.about = running
		return w.tells(api.EvResume, w.parent, w.child, 0)
	}
	return api.Event{}
}

func (w *worker) end(script.Rand) api.Event {
	if code, _ := w.stepPark(w.parkOp); code == api.Ended {
		return w.halts()
	}
	return api.Event{}
}
