package buffers

import (
	"slices"

	"plunder/api"
	"plunder/cells"
)

// place says of which memory a view is, and whose.
type place struct {
	memory *Memory
	actor  int
}

// View is what one actor works on. It keeps nothing but its place, so that all views of one actor are as good as one.
type View struct{ place }

// Load reads a cell as the actor sees it.
func (v *View) Load(addr int) (int64, api.Errno) {
	for _, w := range slices.Backward(v.queue()) {
		if w.Addr == addr {
			return w.V, api.OK
		}
	}
	return v.arena().Load(addr)
}

// Store lets a store wait.
func (v *View) Store(addr int, w int64) api.Errno {
	if !v.reaches(addr) {
		return api.ErrAddr
	}
	if len(v.queue()) == v.memory.room {
		v.memory.Flush(v.actor)
	}
	v.memory.queues[v.actor] = append(v.queue(), api.Wait{Addr: addr, V: w})
	return api.OK
}

// CAS writes a cell if it holds old.
func (v *View) CAS(addr int, old, next int64) (bool, api.Errno) {
	if v.reaches(addr) {
		v.Fence()
	}
	return v.arena().CAS(addr, old, next)
}

// Add adds to a cell and tells the new value.
func (v *View) Add(addr int, d int64) (int64, api.Errno) {
	if v.reaches(addr) {
		v.Fence()
	}
	return v.arena().Add(addr, d)
}

// Reserve gives n fresh cells.
func (v *View) Reserve(n int) (int, api.Errno) {
	arena := v.arena()
	if 1 <= n && n <= arena.Size()-arena.Mark() { // what will be refused must drain nothing
		v.Fence()
	}
	return arena.Reserve(n)
}

// Fence brings all that waits into the cells.
func (v *View) Fence() {
	if !v.isNone() {
		v.memory.drain(v.actor)
	}
}

func (v *View) isNone() bool { return v == nil || v.memory == nil }

// arena tells the cells, with the view's actor named for what is done to them next. A view of nothing has no arena: a nil one refuses just what such a view has to refuse.
func (v *View) arena() *cells.Arena {
	if v.isNone() {
		return nil
	}
	v.memory.arena.Who(v.actor)
	return v.memory.arena
}

func (v *View) queue() []api.Wait {
	if v.isNone() {
		return nil
	}
	return v.memory.queues[v.actor]
}

// reaches tells whether a cell is in use.
func (v *View) reaches(addr int) bool { return 0 <= addr && addr < v.arena().Mark() }
