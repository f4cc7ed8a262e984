package frames

import (
	"plunder/api"
	"plunder/cells"
)

// kind says which call an op is.
type kind int

const (
	allocKind kind = iota
	forkKind
	finishKind
	syncKind
	startKind
	fetchKind
)

// head is what the ops of all kinds have: where the frames lie, and what the call has come to.
type head struct {
	table Table
	code  int // api.Running as long as the op goes on
}

func (h head) runs() bool { return h.code == api.Running }

// Op is a call that is on its way. It is a plain value. The zero one is broken, and so is each that was never right: one that goes on has a table with frames, one that has ended a code.
type Op struct {
	head
	kind        kind
	made        int // how many accesses it has made
	frame, slot int
	v           int64 // what is laid into the slot; behind the end the answer's value
}

// Alloc begins to take a frame that nobody has had.
func Alloc(t Table) Op { return begin(allocKind, t, 0, 0, 0) }

// Fork begins to count a child of a frame.
func Fork(t Table, frame int) Op { return begin(forkKind, t, frame, 0, 0) }

// Finish begins to leave a child's value in a slot of its parent.
func Finish(t Table, parent, slot int, v int64) Op { return begin(finishKind, t, parent, slot, v) }

// Sync begins to wait for a frame's children.
func Sync(t Table, frame int) Op { return begin(syncKind, t, frame, 0, 0) }

// Start begins to mark that a frame has been started.
func Start(t Table, frame int) Op { return begin(startKind, t, frame, 0, 0) }

// Fetch begins to read a slot.
func Fetch(t Table, frame, slot int) Op { return begin(fetchKind, t, frame, slot, 0) }

func begin(k kind, t Table, frame, slot int, v int64) Op {
	if !t.fits() || frame < 0 || frame >= t.Frames || slot < 0 || slot >= api.MaxSlots {
		return Op{}
	}
	return Op{head: head{table: t}, kind: k, frame: frame, slot: slot, v: v}
}

// Step makes one access.
func Step(m cells.Mem, o Op) Op {
	if o == (Op{}) || !o.runs() {
		return o
	}
	if m == nil {
		return Op{}
	}
	steps := [...]func(Op, cells.Mem) (Op, api.Errno){
		allocKind:  Op.alloc,
		forkKind:   Op.fork,
		finishKind: Op.finish,
		syncKind:   Op.sync,
		startKind:  Op.start,
		fetchKind:  Op.fetch,
	}
	next, err := steps[o.kind](o, m)
	if err != api.OK {
		return Op{}
	}
	return next
}

// Answer tells what a call has come to.
func Answer(o Op) (int, int64) {
	switch {
	case o == (Op{}):
		return api.Broken, 0
	case o.runs():
		return api.Running, 0
	}
	return o.code, o.v
}

// end forgets all but the answer, so that nothing of a call's way is to be seen behind it.
func end(code int, v int64) Op { return Op{head: head{code: code}, v: v} }

func (o Op) alloc(m cells.Mem) (Op, api.Errno) {
	n, err := m.Add(o.table.next(), 1)
	if n < 1 || n > int64(o.table.Frames) {
		return end(api.Full, 0), err
	}
	return end(api.Got, n-1), err
}

func (o Op) fork(m cells.Mem) (Op, api.Errno) {
	n, err := m.Add(o.table.join(o.frame), 1)
	return end(api.Forked, n), err
}

func (o Op) start(m cells.Mem) (Op, api.Errno) {
	n, err := m.Add(o.table.mark(o.frame), 1)
	return end(api.Marked, n), err
}

func (o Op) fetch(m cells.Mem) (Op, api.Errno) {
	v, err := m.Load(o.table.slot(o.frame, o.slot))
	return end(api.Read, v), err
}

// finish leaves the value ahead of counting down: whoever finds the counter at 0 finds all values.
func (o Op) finish(m cells.Mem) (Op, api.Errno) {
	switch o.made {
	case 0:
		err := m.Store(o.table.slot(o.frame, o.slot), o.v)
		o.made++
		return o, err
	case 1:
		return o.letGo(m, api.More)
	}
	return o.hold(m, api.Last)
}

func (o Op) sync(m cells.Mem) (Op, api.Errno) {
	if o.made == 0 {
		return o.letGo(m, api.Waits)
	}
	return o.hold(m, api.Synced)
}

// letGo takes 1 off JOIN. If others are left the op has ended, with their number; else the frame is the caller's, and JOIN is made right next.
func (o Op) letGo(m cells.Mem, others int) (Op, api.Errno) {
	n, err := m.Add(o.table.join(o.frame), -1)
	if n != 0 {
		return end(others, n), err
	}
	o.made++
	return o, err
}

// hold puts the holder's 1 back.
func (o Op) hold(m cells.Mem, code int) (Op, api.Errno) {
	err := m.Store(o.table.join(o.frame), held)
	return end(code, 0), err
}
