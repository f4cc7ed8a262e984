package races

import (
	"slices"

	"plunder/api"
)

// none is the number of no deed and of no task.
const none = -1

// serially tells the order in which the deeds stand in their list.
func serially(deeds []api.Deed) []int {
	order := make([]int, len(deeds))
	for at := range order {
		order[at] = at
	}
	return order
}

// parentsFirst tells the order in which a task, up to its next wait, goes on first, and the children that it spawns there come behind, the youngest first.
func parentsFirst(deeds []api.Deed) []int {
	r := newRow(len(deeds))
	for at, d := range deeds {
		r.add(at, d.Kind)
	}
	return r.order()
}

// swapped tells whether the lower one of two deeds stands behind the higher one in an order.
func swapped(order []int, lower, higher int) bool {
	return slices.Index(order, higher) < slices.Index(order, lower)
}

// row is a row of deeds, into the midst of which more are put.
type row struct {
	nexts  []int   // by deed, the one behind it; the last number is for the head of the row
	active []where // tasks that have not returned, each ahead of its child
}

// where is the state of a task as to its deeds in a row.
type where struct {
	last int // its last deed; ahead of its first one the spawn that began it, or the head
	end  int // the return of the first child that it has spawned since its last wait: all that it has to wait for stands ahead of that
}

func newRow(n int) *row {
	r := &row{nexts: make([]int, n+1)}
	r.nexts[n] = none
	r.active = append(r.active, where{last: n, end: none})
	return r
}

// add puts a deed of the current task in, directly behind the task's last one: what the children did there is moved on by that. Only one that waits comes behind the children.
func (r *row) add(at, kind int) {
	task := &r.active[len(r.active)-1]
	if (kind == api.DSync || kind == api.DReturn) && task.end != none {
		task.last, task.end = task.end, none
	}
	r.nexts[at], r.nexts[task.last] = r.nexts[task.last], at
	task.last = at
	switch kind {
	case api.DSpawn:
		r.active = append(r.active, where{last: at, end: none})
	case api.DReturn:
		r.returned(at)
	}
}

// returned ends the current task, whose last deed this was.
func (r *row) returned(at int) {
	r.active = r.active[:len(r.active)-1]
	if parent := &r.active[len(r.active)-1]; parent.end == none {
		parent.end = at
	}
}

// order tells the deeds as they stand in the row.
func (r *row) order() []int {
	head := len(r.nexts) - 1
	order := make([]int, 0, head)
	for at := r.nexts[head]; at != none; at = r.nexts[at] {
		order = append(order, at)
	}
	return order
}
