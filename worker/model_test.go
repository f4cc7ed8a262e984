package worker_test

import (
	"slices"

	"plunder/api"
	"plunder/cells"
	"plunder/deque"
	"plunder/frames"
	"plunder/ops"
	"plunder/park"
	"plunder/serial"
	"plunder/spy"
)

// job is what a world is made of.
type job struct {
	p       api.Program
	args    []int64
	workers int
	lim     api.Limits
}

// model is the chapter by its words: each worker is a routine that is written from its beginning on and waits ahead of each step. The machines of frames, deque and park are those of their chapters.
type model struct {
	job
	mem    cells.Mem
	result int
	table  frames.Table
	lot    park.Lot
	deques []deque.Deque
	parts  map[int]*private
	draws  []int
	drawn  int
	value  int64
	left   bool
	actors []*actor
}

// private is a frame's private part.
type private struct {
	f, at, parent, slot, spawned int
	ped                          int64
	regs                         []int64
}

// actor is a worker of the model.
type actor struct {
	*model
	who, holds   int
	halted, over bool
	wait         func()
	told         api.Event
	routine      *spy.Routine
}

// full is what an actor that has come upon a limit is left by.
type full struct{}

// begin lays the model's world. The memory refuses none of that.
func begin(mem cells.Mem, j job, draws []int) *model {
	m := &model{job: j, mem: mem, parts: map[int]*private{}, draws: draws}
	m.result, _ = mem.Reserve(1)
	m.table, _ = frames.New(mem, j.lim.Frames)
	m.lot, _ = park.New(mem, j.workers)
	for range j.workers {
		d, _ := deque.New(mem, j.lim.First, j.lim.Most)
		m.deques = append(m.deques, d)
	}
	frames.Step(mem, frames.Alloc(m.table))
	m.parts[0] = m.private(0, j.args, -1, 0, 1)
	for i := range j.workers {
		a := &actor{model: m, who: i, holds: -1}
		if i == 0 {
			a.holds = 0
		}
		m.actors = append(m.actors, a)
		a.routine = spy.Begin(func(wait func()) {
			a.wait = wait
			a.lives()
		})
	}
	return m
}

func (m *model) private(f int, args []int64, parent, slot int, ped int64) *private {
	regs := make([]int64, m.p.Funcs[f].Regs)
	copy(regs, args)
	return &private{f: f, parent: parent, slot: slot, ped: ped, regs: regs}
}

// step lets a worker make a step and tells its event.
func (m *model) step(i int) api.Event {
	a := m.actors[i]
	a.told = api.Event{}
	if !a.over {
		a.over = !a.routine.Pick()
	}
	return a.told
}

func (m *model) stop() {
	for _, a := range m.actors {
		a.routine.Stop()
	}
}

func (m *model) draw() int {
	m.drawn++
	if m.drawn > len(m.draws) {
		return 0
	}
	return m.draws[m.drawn-1]
}

func (a *actor) tells(kind, frame, x int, v int64) {
	a.told = api.Event{Who: a.who, Kind: kind, Frame: frame, X: x, V: v}
}

// through plays a machine to its end and shows it behind each of its steps. A broken one leaves the worker full.
func through[O any](a *actor, step func(cells.Mem, O) O, answer func(O) (int, int64), o O, shown func(O)) (int, int64) {
	for {
		a.wait()
		o = step(a.mem, o)
		code, v := answer(o)
		if code == api.Broken {
			panic(full{})
		}
		shown(o)
		if code != api.Running {
			return code, v
		}
	}
}

func (a *actor) frames(o frames.Op) (int, int64) {
	return through(a, frames.Step, frames.Answer, o, func(frames.Op) {})
}

func (a *actor) deque(o deque.Op) (int, int64) {
	return through(a, deque.Step, deque.Answer, o, func(deque.Op) {})
}

func (a *actor) park(o park.Op) (int, int64) {
	return through(a, park.Step, park.Answer, o, func(park.Op) {})
}

func (a *actor) lives() {
	defer func() {
		if x := recover(); x != nil && x != (full{}) {
			panic(x)
		}
	}()
	from := -1
	if a.holds < 0 {
		from = a.hunts()
	}
	for !a.halted {
		_, mark := a.frames(frames.Start(a.table, a.holds))
		a.tells(api.EvStart, a.holds, from, mark)
		for a.holds >= 0 {
			a.does()
		}
		if !a.halted {
			from = a.pops()
		}
	}
}

// does is one instruction of the frame that it holds.
func (a *actor) does() {
	p := a.parts[a.holds]
	i := a.p.Funcs[p.f].Code[p.at]
	p.at++
	switch i.Kind {
	case api.ISpawn:
		a.spawns(p, i)
	case api.ISync:
		a.syncs()
	case api.ILoad:
		_, p.regs[i.A] = a.frames(frames.Fetch(a.table, a.holds, i.B))
	case api.IReturn:
		a.returns(p, p.regs[i.A])
	default:
		a.wait()
		p.computes(i)
	}
}

func (p *private) computes(i api.Instr) {
	switch i.Kind {
	case api.IConst:
		p.regs[i.A] = i.K
	case api.IMove:
		p.regs[i.A] = p.regs[i.B]
	case api.IArith:
		p.regs[i.A], _ = ops.Apply(int(i.K), p.regs[i.B], p.regs[i.C])
	case api.IJump:
		p.at = i.A
	case api.IBranch:
		if p.regs[i.A] != 0 {
			p.at = i.B
		}
	case api.IPed:
		p.regs[i.A] = p.ped
	}
}

func (a *actor) spawns(p *private, i api.Instr) {
	code, v := a.frames(frames.Alloc(a.table))
	if code == api.Full {
		a.tells(api.EvFull, -1, 0, 0)
		panic(full{})
	}
	c := int(v)
	var args []int64
	for k := range a.p.Funcs[i.B].Params {
		args = append(args, p.regs[i.C+k])
	}
	ped := serial.Ped(p.ped, p.spawned)
	a.parts[c] = a.private(i.B, args, a.holds, i.A, ped)
	p.spawned++
	a.frames(frames.Fork(a.table, a.holds))
	if code, _ := a.deque(deque.Push(a.deques[a.who], v)); code == api.Full {
		a.tells(api.EvFull, c, 1, 0)
		panic(full{})
	}
	a.tells(api.EvSpawn, c, a.holds, ped)
	if code, j := a.park(park.Wake(a.lot, a.who)); code == api.Woke {
		a.tells(api.EvWake, a.holds, int(j), 0)
	}
}

func (a *actor) syncs() {
	code, _ := a.frames(frames.Sync(a.table, a.holds))
	if code == api.Synced {
		a.tells(api.EvPass, a.holds, 0, 0)
		return
	}
	a.tells(api.EvWait, a.holds, 0, 0)
	a.holds = -1
}

func (a *actor) returns(p *private, v int64) {
	f := a.holds
	if f == 0 {
		a.wait()
		if a.mem.Store(a.result, v) != api.OK {
			panic(full{})
		}
		a.value, a.left = v, true
		a.tells(api.EvFinish, 0, -1, v)
		a.holds = -1
		a.park(park.Finish(a.lot, a.who))
		a.halts()
		return
	}
	first := true
	code, _ := through(a, frames.Step, frames.Answer, frames.Finish(a.table, p.parent, p.slot, v), func(frames.Op) {
		if first {
			a.tells(api.EvFinish, f, p.parent, v)
			a.holds = -1
		}
		first = false
	})
	if code == api.Last {
		a.tells(api.EvResume, p.parent, f, 0)
		a.holds = p.parent
	}
}

func (a *actor) halts() {
	a.halted = true
	a.tells(api.EvHalt, 0, 0, 0)
}

// pops looks for a frame in its own deque first, and tells where it came from. It may have halted behind that.
func (a *actor) pops() int {
	code, c := a.deque(deque.Pop(a.deques[a.who]))
	if code == api.Got {
		a.holds = int(c)
		return -1
	}
	return a.hunts()
}

func (a *actor) hunts() int {
	for failed := 0; ; {
		if a.workers > 1 {
			victim := -1
			code, c := through(a, func(m cells.Mem, o deque.Op) deque.Op {
				if victim < 0 {
					victim = (a.who + 1 + ops.Mod(a.draw(), a.workers-1)) % a.workers
					o = deque.Steal(a.deques[victim])
				}
				return deque.Step(m, o)
			}, deque.Answer, deque.Op{}, func(deque.Op) {})
			if code == api.Got {
				a.tells(api.EvSteal, int(c), victim, 0)
				a.holds = int(c)
				return victim
			}
			failed++
			if code, _ := a.park(park.Peek(a.lot)); code == api.Halt {
				a.halts()
				return -1
			}
			if failed < 3 {
				continue
			}
		}
		if a.rests() == api.Halt {
			a.halts()
			return -1
		}
		failed = 0
	}
}

func (a *actor) rests() int {
	parked := false
	code, _ := through(a, park.Step, park.Answer, park.Rest(a.lot, a.who, a.deques), func(o park.Op) {
		if park.Parked(o) && !parked {
			a.tells(api.EvPark, 0, 0, 0)
			parked = true
		}
	})
	return code
}

// played is what a whole play tells, by the model.
func played(j job, s api.Script) ([]api.Event, []api.Access) {
	arena, _ := cells.New(1 << 20)
	m := begin(arena, j, s.Draws)
	defer m.stop()
	arena.Watch(true)
	var events []api.Event
	for at, x := range s.Picks {
		if !slices.ContainsFunc(m.actors, func(a *actor) bool { return !a.halted }) {
			break
		}
		i := ops.Mod(x, j.workers)
		arena.Who(i)
		e := m.step(i)
		if e.Kind == api.EvNone {
			continue
		}
		e.At = at
		events = append(events, e)
		if e.Kind == api.EvFull {
			break
		}
	}
	return events, arena.Log()
}
