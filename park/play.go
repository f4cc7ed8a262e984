package park

import (
	"plunder/api"
	"plunder/cells"
	"plunder/deque"
	"plunder/ops"
)

// owner is the worker that has todos. All others are sleepers.
const owner = 0

// play is a script on its way.
type play struct {
	mem     *cells.Arena
	lot     Lot
	deques  []deque.Deque
	todos   []api.Todo // those that the owner has not begun
	workers []worker
	taken   []api.Take
	woken   int
}

// worker: its machine on the owner's deque and its machine on the lot. At most one of them goes on: it is laid in when the one ahead of it ends, since that touches nothing.
type worker struct {
	call deque.Op
	op   Op
}

// Play plays one worker with a deque, and sleepers that steal.
func Play(first, most, sleepers int, todos []api.Todo, picks []int) (api.ParkRun, api.Errno) {
	if err := playFault(first, most, sleepers, todos, picks); err != api.OK {
		return api.ParkRun{}, err
	}
	p := play{todos: todos, workers: make([]worker, 1+sleepers)}
	if err := p.lay(first, most); err != api.OK {
		return api.ParkRun{}, err
	}
	for who := 1; who < len(p.workers); who++ {
		p.workers[who].op = Rest(p.lot, who, p.deques)
	}
	p.mem.Watch(true)
	for _, x := range picks {
		p.pick(ops.Mod(x, len(p.workers)))
	}
	return p.told(), api.OK
}

func playFault(first, most, sleepers int, todos []api.Todo, picks []int) api.Errno {
	switch {
	case len(todos) > api.MaxTodos || len(picks) > api.MaxPicks:
		return api.ErrLong
	case deque.Cells(first, most) == 0:
		return api.ErrCap
	case sleepers < 0 || sleepers > api.MaxSleepers:
		return api.ErrArg
	}
	for _, todo := range todos {
		switch todo.Kind {
		case api.TPush, api.TPop, api.TFinish:
		default:
			return api.ErrTodo
		}
	}
	return api.OK
}

// lay makes the memory, with the lot and all deques in it. A sleeper's deque stays empty: it is there to be looked at.
func (p *play) lay(first, most int) api.Errno {
	workers := len(p.workers)
	mem, err := cells.New(Cells(workers) + deque.Cells(first, most) + (workers-1)*deque.Cells(1, 1))
	if err != api.OK {
		return err
	}
	p.mem = mem
	if p.lot, err = New(mem, workers); err != api.OK {
		return err
	}
	for who := range workers {
		if who != owner {
			first, most = 1, 1
		}
		d, err := deque.New(mem, first, most)
		if err != api.OK {
			return err
		}
		p.deques = append(p.deques, d)
	}
	return api.OK
}

// pick gives a pick to a worker.
func (p *play) pick(who int) {
	w := &p.workers[who]
	if who == owner && !w.goesOn() {
		p.begin(w)
	}
	if !w.goesOn() {
		return
	}
	p.mem.Who(who)
	code, v := w.step(p.mem)
	p.note(who, code, v)
	if who == owner {
		p.ownerBehind(w, code)
	} else {
		p.sleeperBehind(w, who, code)
	}
}

func (w *worker) calls() bool {
	code, _ := deque.Answer(w.call)
	return code == api.Running
}

func (w *worker) goesOn() bool { return w.calls() || w.op.goesOn() }

// step makes a step of the machine that goes on, and tells its answer.
func (w *worker) step(m cells.Mem) (int, int64) {
	if w.calls() {
		w.call = deque.Step(m, w.call)
		return deque.Answer(w.call)
	}
	w.op = Step(m, w.op)
	return Answer(w.op)
}

// begin lets the owner begin its next todo, if one is left.
func (p *play) begin(w *worker) {
	if len(p.todos) == 0 {
		return
	}
	todo := p.todos[0]
	p.todos = p.todos[1:]
	switch todo.Kind {
	case api.TPush:
		w.call = deque.Push(p.deques[owner], todo.V)
	case api.TPop:
		w.call = deque.Pop(p.deques[owner])
	case api.TFinish:
		w.op = Finish(p.lot, owner)
	}
}

// note keeps what is told at the end.
func (p *play) note(who, code int, v int64) {
	switch code {
	case api.Got:
		p.taken = append(p.taken, api.Take{Who: who, V: v})
	case api.Woke:
		p.woken++
	}
}

func (p *play) ownerBehind(w *worker, code int) {
	if code == api.Pushed {
		w.op = Wake(p.lot, owner)
	}
}

func (p *play) sleeperBehind(w *worker, who, code int) {
	switch code {
	case api.Again:
		w.call = deque.Steal(p.deques[owner])
	case api.Got, api.Empty, api.Lost:
		w.op = Rest(p.lot, who, p.deques)
	}
}

// told tells how all stands. What is left comes last, since it is taken out for that.
func (p *play) told() api.ParkRun {
	now := p.mem.Cells()
	r := api.ParkRun{
		Taken:    p.taken,
		Sleepers: now[p.lot.sleepers()],
		Done:     now[p.lot.done()],
		Woken:    p.woken,
		Between:  !p.workers[owner].goesOn(),
		Log:      p.mem.Log(),
	}
	for who := range p.workers {
		r.Flags = append(r.Flags, now[p.lot.flag(who)])
		if who != owner {
			r.States = append(r.States, p.workers[who].state())
		}
	}
	p.mem.Watch(false)
	r.Left = p.left()
	return r
}

// state tells what a sleeper is about.
func (w *worker) state() int {
	code, _ := Answer(w.op)
	switch {
	case w.calls():
		return api.SStealing
	case code == api.Halt:
		return api.SHalted
	case Parked(w.op):
		return api.SParked
	}
	return api.SResting
}

// left tells what the owner's deque holds as the cells stand: with nobody else at work steals get just that, in its order.
func (p *play) left() []int64 {
	var elements []int64
	for {
		thief := worker{call: deque.Steal(p.deques[owner])}
		for thief.calls() {
			thief.step(p.mem)
		}
		code, v := deque.Answer(thief.call)
		if code != api.Got {
			return elements
		}
		elements = append(elements, v)
	}
}
