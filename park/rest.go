package park

import (
	"plunder/api"
	"plunder/cells"
	"plunder/deque"
)

// rest makes an access of a rest up to where it is parked, and there. It announces ahead of looking: whoever puts work in behind the look finds the announcement.
func (o *Op) rest(m cells.Mem) api.Errno {
	var err api.Errno
	switch o.at {
	case restAnnounce:
		err = m.Store(o.lot.flag(o.self), up)
		o.at = restCount
	case restCount:
		_, err = m.Add(o.lot.sleepers(), 1)
		o.at = restDone
	case restDone:
		var done int64
		done, err = m.Load(o.lot.done())
		if done == up {
			o.goBack(api.Halt)
		} else {
			o.lookOn()
		}
	case restLook:
		o.look = deque.Step(m, o.look)
		o.looked()
	case restParked:
		var flag int64
		flag, err = m.Load(o.lot.flag(o.self))
		if flag != up {
			o.end(api.Again, 0)
		}
	}
	return err
}

// lookOn goes on to the next deque. Behind the last one the worker is parked.
func (o *Op) lookOn() {
	o.at = restParked
	if o.turn() {
		o.at = restLook
		o.look = deque.Look(o.deques[o.other])
	}
}

// looked decides by what the look has come to.
func (o *Op) looked() {
	switch code, _ := deque.Answer(o.look); code {
	case api.Some:
		o.goBack(api.Again)
	case api.None:
		o.lookOn()
	case api.Broken:
		*o = Op{}
	}
}

// goBack turns away from resting, to end with this code.
func (o *Op) goBack(code int) {
	o.at = backFlag
	o.code = code
}

// back makes an access of a rest that goes back. A flag that another one has lowered is counted off by that one.
func (o *Op) back(m cells.Mem) api.Errno {
	if o.at == backCount {
		err := o.countOff(m)
		o.end(o.code, 0)
		return err
	}
	did, err := o.lower(m, o.self)
	if did {
		o.at = backCount
	} else {
		o.end(o.code, 0)
	}
	return err
}
