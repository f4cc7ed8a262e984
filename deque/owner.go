package deque

import (
	"plunder/api"
	"plunder/cells"
)

// push makes an access of a push that does not grow, or not yet, or no longer.
func (o Op) push(m cells.Mem) (Op, api.Errno) {
	var err api.Errno
	switch o.at {
	case pushBottom:
		o.b, err = m.Load(o.d.bottom())
		o.at = pushTop
	case pushTop:
		o.t, err = m.Load(o.d.top())
		o.at = pushBuf
	case pushBuf:
		o.a, err = m.Load(o.d.buf())
		o.at = pushCap
	case pushCap:
		o.c, err = m.Load(int(o.a))
		o = o.measured()
	case pushElement:
		err = m.Store(place(o.a, o.c, o.b), o.v)
		o.at = pushRaise
	case pushRaise:
		err = m.Store(o.d.bottom(), o.b+1)
		o = end(api.Pushed, 0)
	}
	return o, err
}

// measured goes on where a push knows how much its buffer takes.
func (o Op) measured() Op {
	switch {
	case o.c < 1:
		return Op{}
	case o.b-o.t < o.c:
		o.at = pushElement
	case o.c >= int64(o.d.Most):
		return end(api.Full, 0)
	default:
		o.nextC = int64(grown(int(o.c), o.d.Most))
		o.at = growReserve
	}
	return o
}

// grow makes an access of a push that moves the elements into a new buffer. The old one stays as it is: thieves may still read it.
func (o Op) grow(m cells.Mem) (Op, api.Errno) {
	var err api.Errno
	switch o.at {
	case growReserve:
		var base int
		base, err = m.Reserve(bufferCells(int(o.nextC)))
		o.nextA = int64(base)
		o.at = growCap
	case growCap:
		err = m.Store(int(o.nextA), o.nextC)
		o.index = o.t
		o.at = growLoad
	case growLoad:
		o.moving, err = m.Load(place(o.a, o.c, o.index))
		o.at = growStore
	case growStore:
		err = m.Store(place(o.nextA, o.nextC, o.index), o.moving)
		o.index++
		o.at = growLoad
		if o.index == o.b {
			o.at = growBuf
		}
	case growBuf:
		err = m.Store(o.d.buf(), o.nextA)
		o.a, o.c = o.nextA, o.nextC
		o.at = pushElement
	}
	return o, err
}

// pop makes an access of a pop.
func (o Op) pop(m cells.Mem) (Op, api.Errno) {
	var err api.Errno
	switch o.at {
	case popBottom:
		o.b, err = m.Load(o.d.bottom())
		o.b--
		o.at = popBuf
	case popBuf:
		o.a, err = m.Load(o.d.buf())
		o.at = popLower
	case popLower:
		err = m.Store(o.d.bottom(), o.b)
		o.at = popTop
	case popTop:
		o.t, err = m.Load(o.d.top())
		o.at = popCap
		if o.t > o.b {
			o.at = popReset
		}
	case popReset:
		err = m.Store(o.d.bottom(), o.t)
		o = end(api.Empty, 0)
	case popCap:
		o.c, err = m.Load(int(o.a))
		o = o.unlessFlat(popElement)
	case popElement:
		o.v, err = m.Load(place(o.a, o.c, o.b))
		o.at = popTake
		if o.t < o.b {
			o = end(api.Got, o.v)
		}
	case popTake:
		var won bool
		won, err = m.CAS(o.d.top(), o.t, o.t+1)
		o = o.decided(won, api.Empty)
		o.at = popRaise
	case popRaise:
		err = m.Store(o.d.bottom(), o.t+1)
		o = end(o.code, o.v)
	}
	return o, err
}
