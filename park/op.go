package park

import (
	"plunder/api"
	"plunder/cells"
	"plunder/deque"
)

// point says which access a machine makes next.
type point int

// The points stand call by call, in the order of a call's accesses: Step tells by that order whose they are.
const (
	broken point = iota // of the zero Op alone
	ended

	restAnnounce
	restCount
	restDone
	restLook
	restParked
	backFlag
	backCount

	wakeSleepers
	wakeFlag
	wakeCount

	peekDone

	finishDone
	finishFlag
	finishCount
)

// head is what all machines share: the lot, who it is, where it stands.
type head struct {
	lot   Lot
	self  int
	at    point
	other int // whom it has come to on its way around; ahead of that way the worker itself
}

// turn goes on to the next one around. It tells false if all others have been come to.
func (h *head) turn() bool {
	h.other = (h.other + 1) % h.lot.Workers
	return h.other != h.self
}

func (h *head) goesOn() bool { return h.at != broken && h.at != ended }

// lower takes a worker's flag down, if it is up. Whoever did it has to count it off next.
func (h *head) lower(m cells.Mem, worker int) (bool, api.Errno) {
	return m.CAS(h.lot.flag(worker), up, down)
}

func (h *head) countOff(m cells.Mem) api.Errno {
	_, err := m.Add(h.lot.sleepers(), -1)
	return err
}

// Op is a call that is on its way. It is a plain value.
type Op struct {
	head
	code   int                         // what the answer is, or will be if a rest goes back
	v      int64                       // the answer's value
	look   deque.Op                    // a rest's look at the deque of the other
	deques [api.MaxWorkers]deque.Deque // a rest's, by worker
}

// Rest begins to rest: deques are those of all workers, in their order.
func Rest(l Lot, self int, deques []deque.Deque) Op {
	o := begin(l, self, restAnnounce)
	if !o.goesOn() || len(deques) != l.Workers {
		return Op{}
	}
	for j, d := range deques {
		if j != self && (d.Most < 1 || d.Most > api.MaxDeque) {
			return Op{}
		}
	}
	copy(o.deques[:], deques)
	return o
}

// Wake begins to wake one that rests.
func Wake(l Lot, self int) Op { return begin(l, self, wakeSleepers) }

// Peek begins to look whether all is done.
func Peek(l Lot) Op { return begin(l, 0, peekDone) }

// Finish begins to tell all that all is done.
func Finish(l Lot, self int) Op { return begin(l, self, finishDone) }

func begin(l Lot, self int, first point) Op {
	if !workersFit(l.Workers) || self < 0 || self >= l.Workers {
		return Op{}
	}
	return Op{head: head{lot: l, self: self, at: first, other: self}}
}

// Step makes one access.
func Step(m cells.Mem, o Op) Op {
	if !o.goesOn() {
		return o
	}
	if m == nil {
		return Op{}
	}
	var err api.Errno
	switch {
	case o.at < backFlag:
		err = o.rest(m)
	case o.at < wakeSleepers:
		err = o.back(m)
	case o.at < peekDone:
		err = o.wake(m)
	case o.at < finishDone:
		err = o.peek(m)
	default:
		err = o.finish(m)
	}
	if err != api.OK {
		return Op{}
	}
	return o
}

// Answer tells what a call has come to.
func Answer(o Op) (int, int64) {
	switch o.at {
	case broken:
		return api.Broken, 0
	case ended:
		return o.code, o.v
	}
	return api.Running, 0
}

// Parked tells whether a rest has come to where it only waits for its flag.
func Parked(o Op) bool { return o.at == restParked }

// end forgets all but the answer, so that nothing of a call's way is to be seen behind it.
func (o *Op) end(code int, v int64) { *o = Op{head: head{at: ended}, code: code, v: v} }
