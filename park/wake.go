package park

import (
	"plunder/api"
	"plunder/cells"
)

// wake makes an access of a wake.
func (o *Op) wake(m cells.Mem) api.Errno {
	var err api.Errno
	switch o.at {
	case wakeSleepers:
		var sleepers int64
		sleepers, err = m.Load(o.lot.sleepers())
		if sleepers > 0 {
			o.around(wakeFlag, api.Nobody)
		} else {
			o.end(api.Nobody, 0)
		}
	case wakeFlag:
		var did bool
		if did, err = o.lower(m, o.other); did {
			o.at = wakeCount
		} else {
			o.around(wakeFlag, api.Nobody)
		}
	case wakeCount:
		err = o.countOff(m)
		o.end(api.Woke, int64(o.other))
	}
	return err
}

// peek makes the access of a peek.
func (o *Op) peek(m cells.Mem) api.Errno {
	done, err := m.Load(o.lot.done())
	if done == up {
		o.end(api.Halt, 0)
	} else {
		o.end(api.Again, 0)
	}
	return err
}

// finish makes an access of a finish.
func (o *Op) finish(m cells.Mem) api.Errno {
	var err api.Errno
	did := false
	switch o.at {
	case finishDone:
		err = m.Store(o.lot.done(), up)
	case finishFlag:
		did, err = o.lower(m, o.other)
	case finishCount:
		err = o.countOff(m)
	}
	if did {
		o.at = finishCount
	} else {
		o.around(finishFlag, api.Ended)
	}
	return err
}

// around goes on to the next worker's flag, or ends behind the last.
func (o *Op) around(flag point, code int) {
	if o.turn() {
		o.at = flag
	} else {
		o.end(code, 0)
	}
}
