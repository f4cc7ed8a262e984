package buffers

import (
	"plunder/api"
	"plunder/ops"
)

// Play plays lists of acts, an actor each.
func Play(size, used, room int, lists [][]api.Act, picks []int) (api.BufferRun, api.Errno) {
	m, err := playMemory(size, used, room, lists, picks)
	if err != api.OK {
		return api.BufferRun{}, err
	}
	effects := make([][]api.Effect, len(lists))
	for _, x := range picks {
		k := ops.Mod(x, 2*len(lists))
		if k >= len(lists) {
			m.Flush(k - len(lists))
		} else if done := len(effects[k]); done < len(lists[k]) {
			effects[k] = append(effects[k], m.View(k).do(lists[k][done]))
		}
	}
	return told(m, lists, effects), api.OK
}

// playMemory makes the memory that a play begins with, or tells why there is none.
func playMemory(size, used, room int, lists [][]api.Act, picks []int) (*Memory, api.Errno) {
	if used < 0 || used > size { // one of the two, too, where size is below 0
		return nil, api.ErrArg
	}
	m, err := New(size, len(lists), room)
	if err != api.OK {
		return nil, err
	}
	for _, list := range lists {
		if len(list) > api.MaxActs {
			return nil, api.ErrLong
		}
	}
	if len(picks) > api.MaxPicks {
		return nil, api.ErrLong
	}
	m.unseen(func() {
		m.View(0).Reserve(used) // refused where used is 0: then there is nothing to be in use
	})
	return m, api.OK
}

// do does an act, and tells what it answers.
func (v *View) do(act api.Act) api.Effect {
	var n int64
	var err api.Errno
	ok := true
	switch act.Kind {
	case api.AcLoad:
		n, err = v.Load(act.Addr)
	case api.AcStore:
		err = v.Store(act.Addr, act.A)
	case api.AcCAS:
		ok, err = v.CAS(act.Addr, act.A, act.B)
	case api.AcAdd:
		n, err = v.Add(act.Addr, act.A)
	case api.AcReserve:
		var base int
		base, err = v.Reserve(int(act.A))
		n = int64(base)
	case api.AcFence:
		v.Fence()
	default:
		err = api.ErrAct
	}
	if err != api.OK {
		return api.Effect{Err: err}
	}
	return api.Effect{V: n, OK: ok}
}

// told tells how a play stands.
func told(m *Memory, lists [][]api.Act, effects [][]api.Effect) api.BufferRun {
	r := api.BufferRun{Effects: effects, Waiting: make([][]api.Wait, len(lists)), Cells: m.Cells(), Log: m.Log(), Done: true}
	for k, list := range lists {
		r.Waiting[k] = m.Waiting(k)
		if len(effects[k]) < len(list) || len(r.Waiting[k]) > 0 {
			r.Done = false
		}
	}
	return r
}
