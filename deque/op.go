package deque

import (
	"plunder/api"
	"plunder/cells"
)

// point says which access a machine makes next.
type point int

// The points stand call by call, in the order of a call's accesses: Step tells by that order whose they are.
const (
	broken point = iota // of the zero Op alone
	ended

	pushBottom
	pushTop
	pushBuf
	pushCap
	pushElement
	pushRaise

	growReserve
	growCap
	growLoad
	growStore
	growBuf

	popBottom
	popBuf
	popLower
	popTop
	popReset
	popCap
	popElement
	popTake
	popRaise

	stealTop
	stealBottom
	stealBuf
	stealCap
	stealElement
	stealTake

	lookTop
	lookBottom
)

// Op is a call that is on its way. It is a plain value.
type Op struct {
	d    Deque
	at   point
	code int   // what the answer is, or will be if the last access is not refused
	v    int64 // the element that is pushed, or was read
	t, b int64 // the indices that were read from TOP and BOTTOM
	a, c int64 // the buffer and its capacity

	// While a push grows: the buffer that follows, its capacity, and which element is moved.
	nextA, nextC  int64
	index, moving int64
}

// Push begins to put an element in at the bottom (the owner's).
func Push(d Deque, v int64) Op {
	o := begin(d, pushBottom)
	if o != (Op{}) {
		o.v = v
	}
	return o
}

// Pop begins to take an element from the bottom (the owner's).
func Pop(d Deque) Op { return begin(d, popBottom) }

// Steal begins to take an element from the top.
func Steal(d Deque) Op { return begin(d, stealTop) }

// Look begins to look whether there is one.
func Look(d Deque) Op { return begin(d, lookTop) }

func begin(d Deque, first point) Op {
	if !mostFits(d.Most) {
		return Op{}
	}
	return Op{d: d, at: first}
}

// Step makes one access.
func Step(m cells.Mem, o Op) Op {
	if o == (Op{}) || o.at == ended {
		return o
	}
	if m == nil {
		return Op{}
	}
	var err api.Errno
	switch {
	case o.at < growReserve:
		o, err = o.push(m)
	case o.at < popBottom:
		o, err = o.grow(m)
	case o.at < stealTop:
		o, err = o.pop(m)
	case o.at < lookTop:
		o, err = o.steal(m)
	default:
		o, err = o.look(m)
	}
	if err != api.OK {
		return Op{}
	}
	return o
}

// Answer tells what a call has come to.
func Answer(o Op) (int, int64) {
	switch {
	case o == (Op{}):
		return api.Broken, 0
	case o.at != ended:
		return api.Running, 0
	}
	return o.code, o.v
}

// end forgets all but the answer, so that nothing of a call's way is to be seen behind it.
func end(code int, v int64) Op { return Op{at: ended, code: code, v: v} }
