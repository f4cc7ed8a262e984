package buffers_test

import (
	"math"
	"math/rand"
	"slices"

	"plunder/api"
	"plunder/buffers"
	"plunder/cells"
	"plunder/spy"
)

var fence = api.Act{Kind: api.AcFence}

// outside are addresses that no memory has in use.
var outside = []int{math.MinInt, -2, -1, api.MaxCells, api.MaxCells + 1, math.MaxInt}

// wait is a store that somebody has made and that has not come into its cell.
type wait struct {
	who, addr int
	v         int64
}

// model is the chapter's words on plain lists: the stores of all actors wait in one list, in the order in which they were made.
type model struct {
	size, room int
	cells      []int64
	waits      []wait
	log        []api.Access
}

func (m *model) note(who, kind, addr int, a, b int64, ok bool) {
	m.log = append(m.log, api.Access{Who: who, Kind: kind, Addr: addr, A: a, B: b, OK: ok})
}

func (m *model) flush(who int) bool {
	i := slices.IndexFunc(m.waits, func(w wait) bool { return w.who == who })
	if i < 0 {
		return false
	}
	w := m.waits[i]
	m.waits = slices.Delete(m.waits, i, i+1)
	m.cells[w.addr] = w.v
	m.note(who, api.AcStore, w.addr, w.v, 0, true)
	return true
}

func (m *model) drain(who int) {
	for m.flush(who) {
	}
}

func (m *model) waiting(who int) (l []api.Wait) {
	for _, w := range m.waits {
		if w.who == who {
			l = append(l, api.Wait{Addr: w.addr, V: w.v})
		}
	}
	return l
}

// fault tells what an act is refused with, if it is.
func (m *model) fault(a api.Act) api.Errno {
	switch {
	case a.Kind < 0 || a.Kind > api.AcFence:
		return api.ErrAct
	case a.Kind == api.AcFence:
		return api.OK
	case a.Kind == api.AcReserve && a.A < 1:
		return api.ErrCount
	case a.Kind == api.AcReserve && a.A > int64(m.size-len(m.cells)):
		return api.ErrRoom
	case a.Kind != api.AcReserve && (a.Addr < 0 || a.Addr >= len(m.cells)):
		return api.ErrAddr
	}
	return api.OK
}

func (m *model) act(who int, a api.Act) api.Effect {
	if err := m.fault(a); err != api.OK {
		return api.Effect{Err: err}
	}
	if a.Kind != api.AcLoad && a.Kind != api.AcStore {
		m.drain(who)
	}
	e := api.Effect{OK: true}
	switch a.Kind {
	case api.AcLoad:
		e.V = m.load(who, a.Addr)
	case api.AcStore:
		if len(m.waiting(who)) == m.room {
			m.flush(who)
		}
		m.waits = append(m.waits, wait{who, a.Addr, a.A})
	case api.AcCAS:
		e.OK = m.cells[a.Addr] == a.A
		if e.OK {
			m.cells[a.Addr] = a.B
		}
		m.note(who, a.Kind, a.Addr, a.A, a.B, e.OK)
	case api.AcAdd:
		m.cells[a.Addr] += a.A
		e.V = m.cells[a.Addr]
		m.note(who, a.Kind, a.Addr, a.A, e.V, true)
	case api.AcReserve:
		e.V = int64(len(m.cells))
		m.cells = append(m.cells, make([]int64, a.A)...)
		m.note(who, a.Kind, int(e.V), a.A, 0, true)
	}
	return e
}

func (m *model) load(who, addr int) int64 {
	own := slices.DeleteFunc(m.waiting(who), func(w api.Wait) bool { return w.Addr != addr })
	if len(own) > 0 {
		return own[len(own)-1].V
	}
	m.note(who, api.AcLoad, addr, m.cells[addr], 0, true)
	return m.cells[addr]
}

// modelView is what an actor of the model works on.
type modelView struct {
	m   *model
	who int
}

func (v modelView) Load(addr int) (int64, api.Errno) {
	e := v.m.act(v.who, spy.Load(addr))
	return e.V, e.Err
}

func (v modelView) Store(addr int, w int64) api.Errno { return v.m.act(v.who, spy.Store(addr, w)).Err }

func (v modelView) CAS(addr int, old, next int64) (bool, api.Errno) {
	e := v.m.act(v.who, spy.CAS(addr, old, next))
	return e.OK, e.Err
}

func (v modelView) Add(addr int, d int64) (int64, api.Errno) {
	e := v.m.act(v.who, spy.Add(addr, d))
	return e.V, e.Err
}

func (v modelView) Reserve(n int) (int, api.Errno) {
	e := v.m.act(v.who, spy.Reserve(n))
	return int(e.V), e.Err
}

// act does an act, without the package's own Play. On plain cells a fence does nothing.
func act(m cells.Mem, a api.Act) (e api.Effect) {
	switch a.Kind {
	case api.AcLoad:
		e.V, e.Err = m.Load(a.Addr)
	case api.AcStore:
		e.Err = m.Store(a.Addr, a.A)
	case api.AcCAS:
		e.OK, e.Err = m.CAS(a.Addr, a.A, a.B)
		return e
	case api.AcAdd:
		e.V, e.Err = m.Add(a.Addr, a.A)
	case api.AcReserve:
		base, err := m.Reserve(int(a.A))
		e.V, e.Err = int64(base), err
	case api.AcFence:
		if v, fenced := m.(*buffers.View); fenced {
			v.Fence()
		}
	}
	e.OK = e.Err == api.OK
	return e
}

// drawn is an act, mostly one that is not refused, on a memory with so many cells. Values are small, so that a CAS often finds what it looks for.
func drawn(rng *rand.Rand, used int) api.Act {
	a := api.Act{Who: rng.Intn(9) - 4, Kind: rng.Intn(2), Addr: rng.Intn(max(used, 1)), A: int64(rng.Intn(4)), B: int64(rng.Intn(4))}
	if rng.Intn(3) == 0 {
		a.Kind = rng.Intn(6)
	}
	switch rng.Intn(40) {
	case 0:
		a.Addr = outside[rng.Intn(len(outside))]
	case 1:
		a.Addr = used + rng.Intn(3)
	case 2:
		a.A = []int64{math.MaxInt64, math.MinInt64}[rng.Intn(2)]
	}
	return a
}

func sameLists[T comparable](a, b [][]T) bool {
	return slices.EqualFunc(a, b, func(x, y []T) bool { return slices.Equal(x, y) })
}

func cloned[T any](lists [][]T) [][]T {
	l := make([][]T, len(lists))
	for i := range lists {
		l[i] = slices.Clone(lists[i])
	}
	return l
}
