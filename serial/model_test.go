package serial_test

import (
	"slices"

	"plunder/api"
	"plunder/asm"
	"plunder/ops"
)

// Short names for what programs are made of.
var (
	program = asm.Program
	fn      = asm.Func
	konst   = asm.Const
	move    = asm.Move
	arith   = asm.Arith
	jump    = asm.Jump
	branch  = asm.Branch
	spawn   = asm.Spawn
	sync    = asm.Sync
	load    = asm.Load
	ped     = asm.Ped
	give    = asm.Return
)

// frame is a task of the model, on a stack that it holds itself.
type frame struct {
	number, at, slot, spawned int
	last                      int   // the number of its last instruction in the run's order, -1: none
	ends                      []int // the last instructions of its children since its last sync
	regs, slots               []int64
}

// history is what the model tells of a run: beside what Eval and Tree tell, all arguments of each task.
type history struct {
	value api.Value
	nodes []api.Node
	args  [][]int64
	err   api.Errno
}

// model runs a valid program by the chapter's words, and tells spans by the run's instructions as nodes of a graph: when is each done at the earliest?
type model struct {
	p     api.Program
	stack []*frame
	done  []int // by instruction, in the run's order: its earliest time
	history
}

func modelRun(p api.Program, args []int64, fuel int) history {
	m := &model{p: p}
	m.begin(0, -1, args, -1, 0)
	for len(m.stack) > 0 && m.err == api.OK {
		if len(m.done) == fuel {
			m.err = api.ErrFuel
			break
		}
		m.step(m.stack[len(m.stack)-1])
	}
	if m.err != api.OK {
		return history{err: m.err}
	}
	m.value.V, m.value.Work, m.value.Tasks = m.nodes[0].V, len(m.done), len(m.nodes)
	m.value.Span = slices.Max(m.done)
	return m.history
}

// begin puts a new task on the stack; its first instruction waits for the one with the number behind.
func (m *model) begin(f, parent int, args []int64, behind, slot int) {
	depth := len(m.stack) + 1
	if depth > 4096 {
		m.err = api.ErrDeep
		return
	}
	m.value.Depth = max(m.value.Depth, depth)
	node := api.Node{Parent: parent, Func: f, Ped: 1}
	if parent >= 0 {
		top := m.stack[len(m.stack)-1]
		node.Index = top.spawned
		node.Ped = m.nodes[parent].Ped*1000003 + int64(top.spawned) + 1
		top.spawned++
	}
	if len(args) > 0 {
		node.Arg = args[0]
	}
	regs := make([]int64, m.p.Funcs[f].Regs)
	copy(regs, args)
	m.stack = append(m.stack, &frame{number: len(m.nodes), slot: slot, last: behind, regs: regs, slots: make([]int64, m.p.Funcs[f].Slots)})
	m.nodes = append(m.nodes, node)
	m.args = append(m.args, args)
}

// step executes one instruction of the task on top.
func (m *model) step(f *frame) {
	node := &m.nodes[f.number]
	i := m.p.Funcs[node.Func].Code[f.at]
	f.at++
	node.Work++
	m.clock(f, i)
	switch i.Kind {
	case api.IConst:
		f.regs[i.A] = i.K
	case api.IMove:
		f.regs[i.A] = f.regs[i.B]
	case api.IArith:
		f.regs[i.A], _ = ops.Apply(int(i.K), f.regs[i.B], f.regs[i.C])
	case api.IJump:
		f.at = i.A
	case api.IBranch:
		if f.regs[i.A] != 0 {
			f.at = i.B
		}
	case api.ISpawn:
		var args []int64
		for k := range m.p.Funcs[i.B].Params {
			args = append(args, f.regs[i.C+k])
		}
		m.begin(i.B, f.number, args, f.last, i.A)
	case api.ILoad:
		f.regs[i.A] = f.slots[i.B]
	case api.IPed:
		f.regs[i.A] = node.Ped
	case api.IReturn:
		node.V = f.regs[i.A]
		m.stack = m.stack[:len(m.stack)-1]
		if len(m.stack) > 0 {
			top := m.stack[len(m.stack)-1]
			top.slots[f.slot] = node.V
			top.ends = append(top.ends, f.last)
		}
	}
}

// clock tells when the instruction is done: one behind all that it waits for.
func (m *model) clock(f *frame, i api.Instr) {
	time := 0
	if f.last >= 0 {
		time = m.done[f.last]
	}
	if i.Kind == api.ISync {
		for _, end := range f.ends {
			time = max(time, m.done[end])
		}
		f.ends = nil
	}
	f.last = len(m.done)
	m.done = append(m.done, time+1)
}
