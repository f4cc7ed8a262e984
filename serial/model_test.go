package serial_test

import (
	"math"
	"math/rand"
	"slices"

	"plunder/api"
	"plunder/ops"
)

func program(funcs ...api.Func) api.Program { return api.Program{Funcs: funcs} }

func fn(params, regs, slots int, code ...api.Instr) api.Func {
	return api.Func{Params: params, Regs: regs, Slots: slots, Code: code}
}

func konst(a int, k int64) api.Instr { return api.Instr{Kind: api.IConst, A: a, K: k} }
func move(a, b int) api.Instr        { return api.Instr{Kind: api.IMove, A: a, B: b} }
func arith(a, b, op, c int) api.Instr {
	return api.Instr{Kind: api.IArith, A: a, B: b, C: c, K: int64(op)}
}
func jump(at int) api.Instr              { return api.Instr{Kind: api.IJump, A: at} }
func branch(a, at int) api.Instr         { return api.Instr{Kind: api.IBranch, A: a, B: at} }
func spawn(slot, f, first int) api.Instr { return api.Instr{Kind: api.ISpawn, A: slot, B: f, C: first} }
func sync() api.Instr                    { return api.Instr{Kind: api.ISync} }
func load(a, slot int) api.Instr         { return api.Instr{Kind: api.ILoad, A: a, B: slot} }
func ped(a int) api.Instr                { return api.Instr{Kind: api.IPed, A: a} }
func give(a int) api.Instr               { return api.Instr{Kind: api.IReturn, A: a} }

// sum is the chapter's program P: the sum of 1 to n, a task for each number.
func sum() api.Program {
	return program(fn(1, 4, 2, branch(0, 2), give(0), konst(1, 1), arith(2, 0, api.Sub, 1), spawn(0, 0, 2), sync(), load(3, 0), arith(3, 3, api.Add, 0), give(3)))
}

// pair is the program of the chapter's example 7.
func pair() api.Program {
	return program(fn(0, 3, 2, spawn(0, 1, 0), spawn(1, 1, 0), sync(), load(0, 0), load(1, 1), arith(2, 0, api.Sub, 1), give(2)), fn(0, 1, 0, ped(0), give(0)))
}

// fib spawns two children of itself.
func fib() api.Func {
	return fn(1, 4, 2, konst(1, 2), arith(2, 0, api.Lt, 1), branch(2, 13), konst(1, 1), arith(3, 0, api.Sub, 1), spawn(0, 0, 3), arith(3, 3, api.Sub, 1), spawn(1, 0, 3), sync(), load(1, 0), load(2, 1), arith(0, 1, api.Add, 2), give(0), give(0))
}

// frame is a task of the model, on a stack that it holds itself.
type frame struct {
	number, at, slot, spawned int
	last                      int   // the number of its last instruction in the run's order, -1: none
	ends                      []int // the last instructions of its children since its last sync
	regs, slots               []int64
}

// history is what the model tells of a run: beside what Eval and Tree tell, all arguments of each task.
type history struct {
	value api.Value
	nodes []api.Node
	args  [][]int64
	err   api.Errno
}

// model runs a valid program by the chapter's words, and tells spans by the run's instructions as nodes of a graph: when is each done at the earliest?
type model struct {
	p     api.Program
	stack []*frame
	done  []int // by instruction, in the run's order: its earliest time
	history
}

func modelRun(p api.Program, args []int64, fuel int) history {
	m := &model{p: p}
	m.begin(0, -1, args, -1, 0)
	for len(m.stack) > 0 && m.err == api.OK {
		if len(m.done) == fuel {
			m.err = api.ErrFuel
			break
		}
		m.step(m.stack[len(m.stack)-1])
	}
	if m.err != api.OK {
		return history{err: m.err}
	}
	m.value.V, m.value.Work, m.value.Tasks = m.nodes[0].V, len(m.done), len(m.nodes)
	m.value.Span = slices.Max(m.done)
	return m.history
}

// begin puts a new task on the stack; its first instruction waits for the one with the number behind.
func (m *model) begin(f, parent int, args []int64, behind, slot int) {
	depth := len(m.stack) + 1
	if depth > 4096 {
		m.err = api.ErrDeep
		return
	}
	m.value.Depth = max(m.value.Depth, depth)
	node := api.Node{Parent: parent, Func: f, Ped: 1}
	if parent >= 0 {
		top := m.stack[len(m.stack)-1]
		node.Index = top.spawned
		node.Ped = m.nodes[parent].Ped*1000003 + int64(top.spawned) + 1
		top.spawned++
	}
	if len(args) > 0 {
		node.Arg = args[0]
	}
	regs := make([]int64, m.p.Funcs[f].Regs)
	copy(regs, args)
	m.stack = append(m.stack, &frame{number: len(m.nodes), slot: slot, last: behind, regs: regs, slots: make([]int64, m.p.Funcs[f].Slots)})
	m.nodes = append(m.nodes, node)
	m.args = append(m.args, args)
}

// step executes one instruction of the task on top.
func (m *model) step(f *frame) {
	node := &m.nodes[f.number]
	i := m.p.Funcs[node.Func].Code[f.at]
	f.at++
	node.Work++
	m.clock(f, i)
	switch i.Kind {
	case api.IConst:
		f.regs[i.A] = i.K
	case api.IMove:
		f.regs[i.A] = f.regs[i.B]
	case api.IArith:
		f.regs[i.A], _ = ops.Apply(int(i.K), f.regs[i.B], f.regs[i.C])
	case api.IJump:
		f.at = i.A
	case api.IBranch:
		if f.regs[i.A] != 0 {
			f.at = i.B
		}
	case api.ISpawn:
		var args []int64
		for k := range m.p.Funcs[i.B].Params {
			args = append(args, f.regs[i.C+k])
		}
		m.begin(i.B, f.number, args, f.last, i.A)
	case api.ILoad:
		f.regs[i.A] = f.slots[i.B]
	case api.IPed:
		f.regs[i.A] = node.Ped
	case api.IReturn:
		node.V = f.regs[i.A]
		m.stack = m.stack[:len(m.stack)-1]
		if len(m.stack) > 0 {
			top := m.stack[len(m.stack)-1]
			top.slots[f.slot] = node.V
			top.ends = append(top.ends, f.last)
		}
	}
}

// clock tells when the instruction is done: one behind all that it waits for.
func (m *model) clock(f *frame, i api.Instr) {
	time := 0
	if f.last >= 0 {
		time = m.done[f.last]
	}
	if i.Kind == api.ISync {
		for _, end := range f.ends {
			time = max(time, m.done[end])
		}
		f.ends = nil
	}
	f.last = len(m.done)
	m.done = append(m.done, time+1)
}

// maker draws functions whose slots are used as they may be.
type maker struct {
	r      *rand.Rand
	params []int // of all functions
	peds   bool  // whether there may be an IPed
	f      api.Func
	state  []int // of each slot: 0 empty, 1 pending, 2 full
}

func (m *maker) add(code ...api.Instr) { m.f.Code = append(m.f.Code, code...) }

func (m *maker) reg() int { return m.r.Intn(m.f.Regs) }

// plain draws an instruction that computes.
func (m *maker) plain() api.Instr {
	switch m.r.Intn(8) {
	case 0:
		return konst(m.reg(), m.r.Int63n(7)-3)
	case 1:
		return konst(m.reg(), int64(m.r.Uint64()))
	case 2:
		return move(m.reg(), m.reg())
	case 3, 4:
		if m.peds {
			return ped(m.reg())
		}
	}
	return arith(m.reg(), m.reg(), m.r.Intn(api.NumOps), m.reg())
}

// pick tells a slot that is in one of the states, or -1.
func (m *maker) pick(states ...int) int {
	for _, slot := range m.r.Perm(len(m.state)) {
		if slices.Contains(states, m.state[slot]) {
			return slot
		}
	}
	return -1
}

func (m *maker) sync() {
	m.add(sync())
	for slot := range m.state {
		if m.state[slot] == 1 {
			m.state[slot] = 2
		}
	}
}

// spawn draws a spawn of a function that finds enough registers.
func (m *maker) spawn(slot int) {
	f := m.r.Intn(len(m.params))
	if slot < 0 || m.params[f] > m.f.Regs {
		return
	}
	first := []int{math.MinInt, -1, 99, math.MaxInt}[m.r.Intn(4)]
	if m.params[f] > 0 {
		first = m.r.Intn(m.f.Regs-m.params[f]+1) * m.r.Intn(2)
	}
	m.add(spawn(slot, f, first))
	m.state[slot] = 1
}

// piece draws a few instructions.
func (m *maker) piece() {
	switch m.r.Intn(10) {
	case 0, 1, 2:
		m.spawn(m.pick(0, 2))
	case 3:
		m.sync()
	case 4, 5:
		if slot := m.pick(2); slot >= 0 {
			m.add(load(m.reg(), slot))
		}
	case 6: // over one, or not
		m.add(branch(m.reg(), len(m.f.Code)+2), m.plain())
	case 7: // over one that is never come to
		m.add(jump(len(m.f.Code)+2), m.plain())
	case 8: // a loop with a child in each round
		if slot := m.pick(0, 2); slot >= 0 && m.pick(1) < 0 {
			top := len(m.f.Code)
			m.spawn(slot)
			m.sync()
			m.add(m.plain(), branch(m.reg(), top))
		}
	default:
		m.add(m.plain())
	}
}

// function draws a function; those with a parameter count it down to 0, where they end, so that many runs of them end.
func (m *maker) function(params int) api.Func {
	regs := max(params, 2) + m.r.Intn(3)
	m.f = api.Func{Params: params, Regs: regs, Slots: m.r.Intn(4)}
	m.state = make([]int, m.f.Slots)
	if params > 0 {
		m.add(branch(0, 2), give(0), konst(regs-1, 1), arith(0, 0, api.Sub, regs-1))
	}
	for range m.r.Intn(12) {
		m.piece()
	}
	if m.pick(1) >= 0 {
		m.sync()
	}
	m.add(give(m.reg()))
	return m.f
}

// draw draws a valid program of one to four functions.
func draw(r *rand.Rand, peds bool) api.Program {
	m := maker{r: r, params: make([]int, 1+r.Intn(4)), peds: peds}
	for f := range m.params {
		m.params[f] = r.Intn(4)
	}
	p := api.Program{}
	for _, params := range m.params {
		p.Funcs = append(p.Funcs, m.function(params))
	}
	return p
}

// drawArgs draws arguments of a program's entry; the first one is small, as programs count it down.
func drawArgs(r *rand.Rand, p api.Program) []int64 {
	args := make([]int64, p.Funcs[0].Params)
	for k := range args {
		args[k] = int64(r.Intn(6) * (1 + r.Intn(2)*k*r.Intn(1<<40)))
	}
	return args
}

// copied is a program in memory of its own, with something in the room behind the ends of its lists.
func copied(p api.Program) api.Program {
	q := api.Program{Funcs: append(slices.Clone(p.Funcs), api.Func{Regs: -3})}
	for f := range p.Funcs {
		code := append(slices.Clone(p.Funcs[f].Code), api.Instr{Kind: -7})
		q.Funcs[f].Code = code[:len(code)-1]
	}
	q.Funcs = q.Funcs[:len(p.Funcs)]
	return q
}
