package cells

import "plunder/api"

// Arena is the cells of a scripted run.
type Arena struct {
	extent
	cells   []int64 // those below the mark alone, so that a great arena costs only what is used of it
	watched bool
	actor   int
	log     []api.Access
}

// New makes an arena with room for so many cells.
func New(size int) (*Arena, api.Errno) {
	if !sizeFits(size) {
		return nil, api.ErrArg
	}
	a := &Arena{}
	a.size = size
	return a, api.OK
}

// Load reads a cell.
func (a *Arena) Load(addr int) (int64, api.Errno) {
	if a == nil || !a.has(addr) {
		return 0, api.ErrAddr
	}
	v := a.cells[addr]
	a.note(api.Access{Kind: api.AcLoad, Addr: addr, A: v, OK: true})
	return v, api.OK
}

// Store writes a cell.
func (a *Arena) Store(addr int, v int64) api.Errno {
	if a == nil || !a.has(addr) {
		return api.ErrAddr
	}
	a.cells[addr] = v
	a.note(api.Access{Kind: api.AcStore, Addr: addr, A: v, OK: true})
	return api.OK
}

// CAS writes a cell if it holds old.
func (a *Arena) CAS(addr int, old, next int64) (bool, api.Errno) {
	if a == nil || !a.has(addr) {
		return false, api.ErrAddr
	}
	ok := a.cells[addr] == old
	if ok {
		a.cells[addr] = next
	}
	a.note(api.Access{Kind: api.AcCAS, Addr: addr, A: old, B: next, OK: ok})
	return ok, api.OK
}

// Add adds to a cell and tells the new value.
func (a *Arena) Add(addr int, d int64) (int64, api.Errno) {
	if a == nil || !a.has(addr) {
		return 0, api.ErrAddr
	}
	a.cells[addr] += d
	v := a.cells[addr]
	a.note(api.Access{Kind: api.AcAdd, Addr: addr, A: d, B: v, OK: true})
	return v, api.OK
}

// Reserve gives n fresh cells.
func (a *Arena) Reserve(n int) (int, api.Errno) {
	if a == nil {
		return new(extent).take(n)
	}
	base, err := a.take(n)
	if err != api.OK {
		return 0, err
	}
	a.cells = append(a.cells, make([]int64, n)...)
	a.note(api.Access{Kind: api.AcReserve, Addr: base, A: int64(n), OK: true})
	return base, api.OK
}

// Size tells for how many cells there is room.
func (a *Arena) Size() int {
	if a == nil {
		return 0
	}
	return a.size
}

// Mark tells how many cells are reserved.
func (a *Arena) Mark() int {
	if a == nil {
		return 0
	}
	return a.used()
}

// Cells tells what the reserved cells hold.
func (a *Arena) Cells() []int64 {
	if a == nil {
		return nil
	}
	told := make([]int64, len(a.cells))
	copy(told, a.cells)
	return told
}

// Watch turns the log on or off.
func (a *Arena) Watch(on bool) {
	if a != nil {
		a.watched = on
	}
}

// Who names the actor of the accesses that follow.
func (a *Arena) Who(actor int) {
	if a != nil {
		a.actor = actor
	}
}

// Log tells the accesses that were watched.
func (a *Arena) Log() []api.Access {
	if a == nil {
		return nil
	}
	told := make([]api.Access, len(a.log))
	copy(told, a.log)
	return told
}

func (a *Arena) note(x api.Access) {
	if a.watched {
		x.Who = a.actor
		a.log = append(a.log, x)
	}
}
