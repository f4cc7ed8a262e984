package deque

import (
	"plunder/api"
	"plunder/cells"
)

// steal makes an access of a steal.
func (o Op) steal(m cells.Mem) (Op, api.Errno) {
	var err api.Errno
	switch o.at {
	case stealTop:
		o.t, err = m.Load(o.d.top())
		o.at = stealBottom
	case stealBottom:
		o.b, err = m.Load(o.d.bottom())
		o.at = stealBuf
		if o.t >= o.b {
			o = end(api.Empty, 0)
		}
	case stealBuf:
		o.a, err = m.Load(o.d.buf())
		o.at = stealCap
	case stealCap:
		o.c, err = m.Load(int(o.a))
		o = o.unlessFlat(stealElement)
	case stealElement:
		o.v, err = m.Load(place(o.a, o.c, o.t))
		o.at = stealTake
	case stealTake:
		var won bool
		won, err = m.CAS(o.d.top(), o.t, o.t+1)
		o = o.decided(won, api.Lost)
		o = end(o.code, o.v)
	}
	return o, err
}

// look makes an access of a look.
func (o Op) look(m cells.Mem) (Op, api.Errno) {
	var err api.Errno
	switch o.at {
	case lookTop:
		o.t, err = m.Load(o.d.top())
		o.at = lookBottom
	case lookBottom:
		o.b, err = m.Load(o.d.bottom())
		code := api.None
		if o.t < o.b {
			code = api.Some
		}
		o = end(code, 0)
	}
	return o, err
}

// unlessFlat goes on to a point, but not with a buffer that has no room for an element.
func (o Op) unlessFlat(next point) Op {
	if o.c < 1 {
		return Op{}
	}
	o.at = next
	return o
}

// decided keeps what a CAS on TOP has come to: the element that was read is the caller's only if no other call took it.
func (o Op) decided(won bool, other int) Op {
	o.code = api.Got
	if !won {
		o.code, o.v = other, 0
	}
	return o
}
