package buffers

import (
	"slices"

	"plunder/api"
	"plunder/cells"
	"plunder/deque"
	"plunder/ops"
)

// owner is the actor that pushes and pops. All others are thieves.
const owner = 0

// dequePlay is a script on one deque, on its way.
type dequePlay struct {
	memory *Memory
	d      deque.Deque
	fenced bool
	todos  []api.Todo // those that the owner has not begun
	actors []actor
	calls  []api.Call
}

// actor: its machine (ended, or the zero Op, if it has none on its way), what that works on, and which of the calls it is.
type actor struct {
	op   deque.Op
	mem  cells.Mem
	call int
}

// prompt is a view none of whose stores waits.
type prompt struct{ *View }

// Store brings a store into its cell at once.
func (p prompt) Store(addr int, w int64) api.Errno {
	err := p.View.Store(addr, w)
	p.Fence()
	return err
}

// Deque plays a script on one deque over such a memory; fenced: what a pop stores does not wait.
func Deque(first, most int, todos []api.Todo, thieves, room int, fenced bool, picks []int) (api.DequeRun, api.Errno) {
	m, err := dequeMemory(first, most, todos, thieves, room, picks)
	if err != api.OK {
		return api.DequeRun{}, err
	}
	p := dequePlay{memory: m, fenced: fenced, todos: todos, actors: make([]actor, 1+thieves)}
	m.unseen(func() {
		p.d, err = deque.New(m.View(owner), first, most)
		m.drain(owner)
	})
	if err != api.OK {
		return api.DequeRun{}, err
	}
	for n, x := range picks {
		k := ops.Mod(x, 2*len(p.actors))
		if k < len(p.actors) {
			p.pick(n, k)
		} else {
			m.Flush(k - len(p.actors))
		}
	}
	for who := range p.actors {
		m.drain(who)
	}
	return p.told(), api.OK
}

// dequeMemory makes the memory that a play begins with, or tells why there is none. The cells suffice: an owner always sees its own stores, so its deque grows here just as it does on plain cells.
func dequeMemory(first, most int, todos []api.Todo, thieves, room int, picks []int) (*Memory, api.Errno) {
	if len(picks) > api.MaxPicks {
		return nil, api.ErrLong
	}
	if _, err := deque.Play(first, most, todos, thieves, nil); err != api.OK {
		return nil, err
	}
	return New(deque.Cells(first, most), 1+thieves, room)
}

// pick gives the pick number n to an actor.
func (p *dequePlay) pick(n, who int) {
	a := &p.actors[who]
	if code, _ := deque.Answer(a.op); code != api.Running && !p.begin(n, who) {
		return
	}
	a.op = deque.Step(a.mem, a.op)
	if code, v := deque.Answer(a.op); code != api.Running {
		call := &p.calls[a.call]
		call.End, call.Code, call.V = n, code, v
	}
}

// begin gives an actor its next machine. It tells false if there is none to begin.
func (p *dequePlay) begin(n, who int) bool {
	next := api.Todo{Kind: api.TSteal}
	if who == owner {
		if len(p.todos) == 0 {
			return false
		}
		next = p.todos[0]
		p.todos = p.todos[1:]
	}
	call := api.Call{Who: who, Kind: next.Kind, Begin: n, End: -1, Code: api.Running}
	view := p.memory.View(who)
	a := actor{mem: view, call: len(p.calls)}
	switch next.Kind {
	case api.TPush:
		call.Arg = next.V
		a.op = deque.Push(p.d, next.V)
	case api.TPop:
		a.op = deque.Pop(p.d)
		if p.fenced {
			a.mem = prompt{view}
		}
	case api.TSteal:
		a.op = deque.Steal(p.d)
	}
	p.actors[who] = a
	p.calls = append(p.calls, call)
	return true
}

// told tells how all stands. What is left comes last, since it is taken out for that.
func (p *dequePlay) told() api.DequeRun {
	r := api.DequeRun{Calls: p.calls, Log: p.memory.Log()}
	p.memory.unseen(func() { r.Rest = p.left() })
	return r
}

// left tells what the deque holds as the cells stand: with nobody else at work steals get just that, in its order.
func (p *dequePlay) left() []int64 {
	var elements []int64
	for {
		o := deque.Steal(p.d)
		code, v := deque.Answer(o)
		for code == api.Running {
			o = deque.Step(p.memory.arena, o)
			code, v = deque.Answer(o)
		}
		if code != api.Got {
			return elements
		}
		elements = append(elements, v)
	}
}

// Twice tells a play without fences in which one element is got twice: what the pop stores into BOTTOM waits, so a thief steals past it.
func Twice() ([]api.Todo, int, []int) {
	const thief, flush = 1, 2
	todos := []api.Todo{{Kind: api.TPush, V: 1}, {Kind: api.TPush, V: 2}, {Kind: api.TPop}}
	picks := slices.Concat(
		slices.Repeat([]int{owner}, 12), // both pushes
		slices.Repeat([]int{flush}, 4),  // two stores of each
		slices.Repeat([]int{owner}, 4),  // the pop has loaded TOP
		slices.Repeat([]int{thief}, 12), // both elements are stolen
		slices.Repeat([]int{owner}, 2),  // the pop takes the second without a CAS
	)
	return todos, 1, picks
}
