// Package spy is for tests of step machines: a memory that notes what is asked of it and can refuse, and the rules R7 to R10 held against a machine's ways.
package spy

import (
	"math"

	"plunder/api"
	"plunder/cells"
)

// Mem is a memory over another one.
type Mem struct {
	in     cells.Mem
	Asked  []api.Act // every access that was asked for, refused or not
	Refuse int       // the number of the first access that is refused
	Err    api.Errno // what it is refused with
}

// New is a spy that refuses nothing of itself.
func New(in cells.Mem) *Mem { return &Mem{in: in, Refuse: math.MaxInt, Err: api.ErrAct} }

func (s *Mem) ask(a api.Act) bool {
	s.Asked = append(s.Asked, a)
	return len(s.Asked) <= s.Refuse
}

// Beside a refusal the spy tells values that would do harm if they were looked at.

func (s *Mem) Load(addr int) (int64, api.Errno) {
	if !s.ask(Load(addr)) {
		return 99, s.Err
	}
	return s.in.Load(addr)
}

func (s *Mem) Store(addr int, v int64) api.Errno {
	if !s.ask(Store(addr, v)) {
		return s.Err
	}
	return s.in.Store(addr, v)
}

func (s *Mem) CAS(addr int, old, next int64) (bool, api.Errno) {
	if !s.ask(CAS(addr, old, next)) {
		return true, s.Err
	}
	return s.in.CAS(addr, old, next)
}

func (s *Mem) Add(addr int, d int64) (int64, api.Errno) {
	if !s.ask(Add(addr, d)) {
		return 99, s.Err
	}
	return s.in.Add(addr, d)
}

func (s *Mem) Reserve(n int) (int, api.Errno) {
	if !s.ask(Reserve(n)) {
		return 0, s.Err
	}
	return s.in.Reserve(n)
}

// The accesses, as they are asked for.

func Load(addr int) api.Act           { return api.Act{Kind: api.AcLoad, Addr: addr} }
func Store(addr int, v int64) api.Act { return api.Act{Kind: api.AcStore, Addr: addr, A: v} }
func CAS(addr int, old, next int64) api.Act {
	return api.Act{Kind: api.AcCAS, Addr: addr, A: old, B: next}
}
func Add(addr int, d int64) api.Act { return api.Act{Kind: api.AcAdd, Addr: addr, A: d} }
func Reserve(n int) api.Act         { return api.Act{Kind: api.AcReserve, A: int64(n)} }

// Laid is an arena with room, whose first cells hold what is told.
func Laid(held ...int64) *cells.Arena {
	m, _ := cells.New(len(held) + 100)
	m.Reserve(len(held))
	for i, v := range held {
		m.Store(i, v)
	}
	return m
}
