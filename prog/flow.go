package prog

import "plunder/api"

// The states of a slot.
const (
	empty = 1 << iota
	pending
	full
)

// point is the end of a path, seen from one slot: the last place, and the slot's state there.
type point struct{ at, state int }

// start is where every path begins.
var start = point{0, empty}

// origins tells by place and state from which point a search came there first. A point that was not met has come from no state at all.
type origins [][full + 1]point

func (from origins) met(p point) bool { return from[p.at][p.state].state != 0 }

// search goes along all paths of a sound function until it comes to the goal. Each point is gone on from but once, so that no path between the origins comes twice to one point.
func search(f api.Func, slot int, goal point) origins {
	from := make(origins, len(f.Code))
	from[start.at][start.state] = start
	open := []point{start}
	var ways []int
paths:
	for len(open) > 0 {
		here := open[0]
		open = open[1:]
		i := f.Code[here.at]
		state := after(i, slot, here.state)
		ways = exits(ways[:0], here.at, i)
		for _, at := range ways {
			next := point{at, state}
			if from.met(next) {
				continue
			}
			from[next.at][next.state] = here
			if next == goal {
				break paths
			}
			open = append(open, next)
		}
	}
	return from
}

// after tells a slot's state behind an instruction.
func after(i api.Instr, slot, state int) int {
	switch {
	case i.Kind == api.ISpawn && i.A == slot:
		return pending
	case i.Kind == api.ISync && state == pending:
		return full
	}
	return state
}

// exits puts the places at which an instruction may go on behind a list.
func exits(list []int, at int, i api.Instr) []int {
	is := forms[i.Kind]
	if is.next {
		list = append(list, at+1)
	}
	if is.a == aPlace {
		list = append(list, i.A)
	}
	if is.b == aPlace {
		list = append(list, i.B)
	}
	return list
}

// flow tells the states of all slots at all places of a sound function.
func flow(f api.Func) [][]int {
	rows := make([][]int, len(f.Code))
	for at := range rows {
		rows[at] = make([]int, f.Slots)
	}
	for slot := range f.Slots {
		for at, states := range search(f, slot, point{}) {
			for state, from := range states {
				if from.state != 0 {
					rows[at][slot] += state
				}
			}
		}
	}
	return rows
}

// checkSlots looks at what a sound function does to its slots. A place on no path has no states, so nothing is wrong there.
func checkSlots(number int, f api.Func) {
	for at, row := range flow(f) {
		if err := misuse(f.Code[at], row); err != api.OK {
			giveUp(err, number, at)
		}
	}
}

// misuse tells what is wrong with an instruction where the slots have these states.
func misuse(i api.Instr, row []int) api.Errno {
	switch i.Kind {
	case api.ISpawn:
		if row[i.A]&pending != 0 {
			return api.ErrSpawn
		}
	case api.ILoad:
		if row[i.B]&^full != 0 {
			return api.ErrLoad
		}
	case api.IReturn:
		for _, states := range row {
			if states&pending != 0 {
				return api.ErrOpen
			}
		}
	}
	return api.OK
}
