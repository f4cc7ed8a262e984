package cells

import (
	"sync"
	"sync/atomic"

	"plunder/api"
)

// Shared is cells that goroutines share.
//
// Only Reserve takes the lock. The others need none: the mark never falls, so an address that it has let through stays good, and no cell from the mark on was ever written.
type Shared struct {
	extent
	lock  sync.Mutex
	cells []atomic.Int64 // all of them from the beginning: a list that grows could not be read without a lock
}

// NewShared makes shared cells, with room for so many.
func NewShared(size int) (*Shared, api.Errno) {
	if !sizeFits(size) {
		return nil, api.ErrArg
	}
	s := &Shared{cells: make([]atomic.Int64, size)}
	s.size = size
	return s, api.OK
}

// Load reads a cell.
func (s *Shared) Load(addr int) (int64, api.Errno) {
	if s == nil || !s.has(addr) {
		return 0, api.ErrAddr
	}
	return s.cells[addr].Load(), api.OK
}

// Store writes a cell.
func (s *Shared) Store(addr int, v int64) api.Errno {
	if s == nil || !s.has(addr) {
		return api.ErrAddr
	}
	s.cells[addr].Store(v)
	return api.OK
}

// CAS writes a cell if it holds old.
func (s *Shared) CAS(addr int, old, next int64) (bool, api.Errno) {
	if s == nil || !s.has(addr) {
		return false, api.ErrAddr
	}
	return s.cells[addr].CompareAndSwap(old, next), api.OK
}

// Add adds to a cell and tells the new value.
func (s *Shared) Add(addr int, d int64) (int64, api.Errno) {
	if s == nil || !s.has(addr) {
		return 0, api.ErrAddr
	}
	return s.cells[addr].Add(d), api.OK
}

// Reserve gives n fresh cells.
func (s *Shared) Reserve(n int) (int, api.Errno) {
	if s == nil {
		return new(extent).take(n)
	}
	s.lock.Lock()
	defer s.lock.Unlock()
	return s.take(n)
}

// Size tells for how many cells there is room.
func (s *Shared) Size() int {
	if s == nil {
		return 0
	}
	return s.size
}

// Mark tells how many cells are reserved.
func (s *Shared) Mark() int {
	if s == nil {
		return 0
	}
	return s.used()
}
