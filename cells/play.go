package cells

import (
	"sync"

	"plunder/api"
)

// Play makes an arena and does acts on it, one after the other.
func Play(size int, acts []api.Act) (api.CellRun, api.Errno) {
	a, err := New(size)
	if err != api.OK {
		return api.CellRun{}, err
	}
	if len(acts) > api.MaxActs {
		return api.CellRun{}, api.ErrLong
	}
	a.Watch(true)
	effects := make([]api.Effect, len(acts))
	for i, act := range acts {
		a.Who(act.Who)
		effects[i] = do(a, act)
	}
	return api.CellRun{Effects: effects, Cells: a.Cells(), Log: a.Log()}, api.OK
}

// Crowd lets a goroutine a list add to shared cells, all at once, and tells the cells at the end.
func Crowd(size int, lists [][]api.Act) ([]int64, api.Errno) {
	s, err := NewShared(size)
	if err == api.OK {
		err = crowdFault(size, lists)
	}
	if err != api.OK {
		return nil, err
	}
	s.Reserve(size) // refused where size is 0: then there is nothing to be in use
	var all sync.WaitGroup
	for _, list := range lists {
		all.Add(1)
		go func() {
			defer all.Done()
			for _, act := range list {
				do(s, act)
			}
		}()
	}
	all.Wait()
	told := make([]int64, size)
	for i := range told {
		told[i] = s.cells[i].Load()
	}
	return told, api.OK
}

// crowdFault: only sums are let through, since they alone come to the same in every order.
func crowdFault(size int, lists [][]api.Act) api.Errno {
	if len(lists) > api.MaxWorkers {
		return api.ErrLong
	}
	for _, list := range lists {
		if len(list) > api.MaxActs {
			return api.ErrLong
		}
	}
	for _, list := range lists {
		for _, act := range list {
			if act.Kind != api.AcAdd {
				return api.ErrAct
			}
			if act.Addr < 0 || act.Addr >= size {
				return api.ErrAddr
			}
		}
	}
	return api.OK
}

// do makes the one access that an act asks for, on either kind of memory.
func do(m Mem, act api.Act) api.Effect {
	var v int64
	var err api.Errno
	ok := true
	switch act.Kind {
	case api.AcLoad:
		v, err = m.Load(act.Addr)
	case api.AcStore:
		err = m.Store(act.Addr, act.A)
	case api.AcCAS:
		ok, err = m.CAS(act.Addr, act.A, act.B)
	case api.AcAdd:
		v, err = m.Add(act.Addr, act.A)
	case api.AcReserve:
		var base int
		base, err = m.Reserve(int(act.A))
		v = int64(base)
	default:
		err = api.ErrAct
	}
	if err != api.OK {
		return api.Effect{Err: err}
	}
	return api.Effect{V: v, OK: ok}
}
