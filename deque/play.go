package deque

import (
	"plunder/api"
	"plunder/cells"
	"plunder/ops"
)

// play is a script on its way.
type play struct {
	mem    *cells.Arena
	d      Deque
	todos  []api.Todo // those that the owner has not begun
	actors []actor    // the owner, and then the thieves
	calls  []api.Call
}

// actor: its machine (ended, or the zero Op, if it has none on its way), and which of the calls that is.
type actor struct {
	op   Op
	call int
}

// Play plays a script on one deque.
func Play(first, most int, todos []api.Todo, thieves int, picks []int) (api.DequeRun, api.Errno) {
	if err := playFault(first, most, todos, thieves, picks); err != api.OK {
		return api.DequeRun{}, err
	}
	mem, err := cells.New(Cells(first, most))
	if err != api.OK {
		return api.DequeRun{}, err
	}
	d, err := New(mem, first, most)
	if err != api.OK {
		return api.DequeRun{}, err
	}
	mem.Watch(true)
	p := play{mem: mem, d: d, todos: todos, actors: make([]actor, 1+thieves)}
	for n, x := range picks {
		p.pick(n, ops.Mod(x, len(p.actors)))
	}
	return api.DequeRun{Calls: p.calls, Rest: p.rest(), Log: mem.Log()}, api.OK
}

func playFault(first, most int, todos []api.Todo, thieves int, picks []int) api.Errno {
	switch {
	case len(todos) > api.MaxTodos || len(picks) > api.MaxPicks:
		return api.ErrLong
	case !capsFit(first, most):
		return api.ErrCap
	case thieves < 0 || thieves > api.MaxThieves:
		return api.ErrArg
	}
	for _, todo := range todos {
		if todo.Kind != api.TPush && todo.Kind != api.TPop {
			return api.ErrTodo
		}
	}
	return api.OK
}

// pick gives the pick number n to an actor.
func (p *play) pick(n, who int) {
	a := &p.actors[who]
	if code, _ := Answer(a.op); code != api.Running && !p.begin(a, n, who) {
		return
	}
	p.mem.Who(who)
	a.op = Step(p.mem, a.op)
	if code, v := Answer(a.op); code != api.Running {
		call := &p.calls[a.call]
		call.End, call.Code, call.V = n, code, v
	}
}

// begin gives an actor its next machine. It tells false if there is none to begin.
func (p *play) begin(a *actor, n, who int) bool {
	call := api.Call{Who: who, Kind: api.TSteal, Begin: n, End: -1, Code: api.Running}
	switch {
	case who != 0:
		a.op = Steal(p.d)
	case len(p.todos) == 0:
		return false
	default:
		todo := p.todos[0]
		p.todos = p.todos[1:]
		call.Kind = todo.Kind
		if todo.Kind == api.TPush {
			call.Arg = todo.V
			a.op = Push(p.d, todo.V)
		} else {
			a.op = Pop(p.d)
		}
	}
	a.call = len(p.calls)
	p.calls = append(p.calls, call)
	return true
}

// rest tells what the deque holds as the cells stand.
func (p *play) rest() []int64 {
	held := p.mem.Cells()
	buffer := held[p.d.buf()]
	var elements []int64
	for i := held[p.d.top()]; i < held[p.d.bottom()]; i++ {
		elements = append(elements, held[place(buffer, held[buffer], i)])
	}
	return elements
}
