package hyper

import (
	"slices"

	"plunder/api"
	"plunder/ops"
)

// task is one that has begun and not returned.
type task struct {
	spawn int   // the number of the spawn that began it; no one asks for the root's
	row   []int // the numbers of its views, from left to right
}

// player plays deeds on views of one kind.
type player[T any] struct {
	kind   kind[T]
	stolen []bool
	picks  []int // those that are left
	views  []T   // what each view holds, by its number
	tasks  []task
	spawns int // how many there have been
	merges []api.Merge
	looks  []T
}

// play wants deeds without a fault.
func play[T any](k kind[T], deeds []api.Deed, stolen []bool, picks []int) *player[T] {
	p := &player[T]{kind: k, stolen: stolen, picks: picks}
	p.tasks = []task{{row: []int{p.newView()}}}
	for at, d := range deeds {
		p.do(at, d)
	}
	for range len(p.tasks) {
		p.merge(len(deeds))
		p.end()
	}
	return p
}

// do does one deed.
func (p *player[T]) do(at int, d api.Deed) {
	switch d.Kind {
	case api.DWrite:
		hand := p.hand()
		p.views[hand] = p.kind.put(p.views[hand], d.Loc)
	case api.DRead:
		p.looks = append(p.looks, p.kind.tell(p.views[p.hand()]))
	case api.DSpawn:
		p.tasks = append(p.tasks, task{spawn: p.spawns, row: []int{p.hand()}})
		p.spawns++
	case api.DSync:
		p.merge(at)
	case api.DReturn:
		p.merge(at)
		if spawn := p.end(); spawn < len(p.stolen) && p.stolen[spawn] {
			parent := p.current()
			parent.row = append(parent.row, p.newView())
		}
	}
}

// newView tells the number of a new view.
func (p *player[T]) newView() int {
	p.views = append(p.views, p.kind.fresh())
	return len(p.views) - 1
}

// current is the task whose deeds come now.
func (p *player[T]) current() *task { return &p.tasks[len(p.tasks)-1] }

// hand tells which view the current task has in hand.
func (p *player[T]) hand() int {
	row := p.current().row
	return row[len(row)-1]
}

// end ends the current task, whose row has been merged into the view that was lent to it. It tells the spawn that began the task.
func (p *player[T]) end() int {
	spawn := p.current().spawn
	p.tasks = p.tasks[:len(p.tasks)-1]
	return spawn
}

// merge joins the current task's views until one is left.
func (p *player[T]) merge(at int) {
	row := p.current().row
	for len(row) > 1 {
		j := ops.Mod(p.pick(), len(row)-1)
		left, right := row[j], row[j+1]
		p.views[left] = p.kind.join(p.views[left], p.views[right])
		p.merges = append(p.merges, api.Merge{At: at, Left: left, Right: right})
		row = slices.Delete(row, j+1, j+2)
	}
	p.current().row = row
}

// pick tells the next of the picks.
func (p *player[T]) pick() int {
	if len(p.picks) == 0 {
		return 0
	}
	first := p.picks[0]
	p.picks = p.picks[1:]
	return first
}
