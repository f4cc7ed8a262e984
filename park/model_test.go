package park_test

import (
	"plunder/api"
	"plunder/cells"
	"plunder/deque"
	"plunder/ops"
	"plunder/spy"
)

// model is 9.8 by the chapter's words: each worker is a routine. The deque's machines are chapter 3's.
type model struct {
	mem     *cells.Arena
	workers int
	deques  []deque.Deque
	run     api.ParkRun
	beyond  int // the most accesses that a machine has made beyond its bound (9.13)
}

// actor is a worker of the model, which waits ahead of each access.
type actor struct {
	*model
	who  int
	wait func()
	left *int // how many accesses its machine may still make
}

// modelled tells the run, and how many accesses a machine has made beyond its bound.
func modelled(first, most, sleepers int, todos []api.Todo, picks []int) (api.ParkRun, int) {
	m := &model{workers: 1 + sleepers}
	m.mem, _ = cells.New(1 << 16)
	m.mem.Reserve(2 + m.workers)
	for i := range m.workers {
		if i > 0 {
			first, most = 1, 1
		}
		d, _ := deque.New(m.mem, first, most)
		m.deques = append(m.deques, d)
	}
	m.mem.Watch(true)
	m.run.States = make([]int, sleepers)
	m.run.Between = true
	routines := make([]*spy.Routine, m.workers)
	for i := range routines {
		routines[i] = spy.Begin(func(wait func()) {
			a := actor{model: m, who: i, wait: wait, left: new(int)}
			if i == 0 {
				a.works(todos)
			} else {
				a.sleeps()
			}
		})
	}
	over := make([]bool, m.workers)
	over[0] = len(todos) == 0
	for _, x := range picks {
		if i := ops.Mod(x, m.workers); !over[i] {
			if i == 0 {
				m.run.Between = false
			}
			over[i] = !routines[i].Pick()
		}
	}
	for _, r := range routines {
		r.Stop()
	}
	return m.told(), m.beyond
}

func (m *model) told() api.ParkRun {
	m.run.Log = m.mem.Log()
	now := m.mem.Cells()
	m.run.Sleepers, m.run.Done = now[0], now[1]
	m.run.Flags = now[2 : 2+m.workers]
	d := m.deques[0].Base
	for i, a := now[d], now[d+2]; i < now[d+1]; i++ {
		m.run.Left = append(m.run.Left, now[a+1+i%now[a]])
	}
	return m.run
}

// access waits for a pick.
func (a actor) access() *cells.Arena {
	a.wait()
	a.mem.Who(a.who)
	*a.left--
	a.beyond = max(a.beyond, -*a.left)
	return a.mem
}

func (a actor) load(addr int) int64 {
	v, _ := a.access().Load(addr)
	return v
}

func (a actor) cas(addr int) bool {
	ok, _ := a.access().CAS(addr, 1, 0)
	return ok
}

func (a actor) call(o deque.Op) int {
	*a.left = 1 << 30
	for {
		code, v := deque.Answer(o)
		if code == api.Got {
			a.run.Taken = append(a.run.Taken, api.Take{Who: a.who, V: v})
		}
		if code != api.Running {
			return code
		}
		o = deque.Step(a.access(), o)
	}
}

// around is all others, in their order.
func (a actor) around() []int {
	var all []int
	for j := a.who + 1; j < a.workers; j++ {
		all = append(all, j)
	}
	for j := range a.who {
		all = append(all, j)
	}
	return all
}

func (a actor) works(todos []api.Todo) {
	for _, todo := range todos {
		a.run.Between = true
		switch todo.Kind {
		case api.TPush:
			if a.call(deque.Push(a.deques[0], todo.V)) == api.Pushed {
				a.wakes()
			}
		case api.TPop:
			a.call(deque.Pop(a.deques[0]))
		case api.TFinish:
			*a.left = 2*a.workers - 1
			a.access().Store(1, 1)
			for _, j := range a.around() {
				if a.cas(2 + j) {
					a.access().Add(0, -1)
				}
			}
		}
	}
	a.run.Between = true
}

func (a actor) wakes() {
	*a.left = a.workers + 1
	if a.load(0) <= 0 || a.workers == 1 {
		return
	}
	for _, j := range a.around() {
		if a.cas(2 + j) {
			a.access().Add(0, -1)
			a.run.Woken++
			return
		}
	}
}

func (a actor) sleeps() {
	state := &a.run.States[a.who-1]
	for {
		*state = api.SResting
		if a.rests(state) == api.Halt {
			*state = api.SHalted
			return
		}
		*state = api.SStealing
		a.call(deque.Steal(a.deques[0]))
	}
}

func (a actor) rests(state *int) int {
	*a.left = 2*a.workers + 3
	a.access().Store(2+a.who, 1)
	a.access().Add(0, 1)
	if a.load(1) == 1 {
		a.goesBack()
		return api.Halt
	}
	for _, j := range a.around() {
		t := a.load(a.deques[j].Base)
		if b := a.load(a.deques[j].Base + 1); t < b {
			a.goesBack()
			return api.Again
		}
	}
	*state = api.SParked
	*a.left = 1 << 30
	for a.load(2+a.who) == 1 {
	}
	return api.Again
}

func (a actor) goesBack() {
	if a.cas(2 + a.who) {
		a.access().Add(0, -1)
	}
}
