package serial

import (
	"plunder/api"
	"plunder/ops"
)

// run is one serial run: the fuel that is left, and what has been counted so far.
type run struct {
	funcs        []api.Func
	fuel         int
	tasks, depth int
	lists        bool // whether nodes are kept
	nodes        []api.Node
}

// task is one activation of a function. It is played as a value, so no child can touch what is its parent's.
type task struct {
	regs          [api.MaxRegs]int64
	slots         [api.MaxSlots]int64
	node          api.Node
	number, depth int
	spawned       int // children so far
	span          int // the longest chain of instructions up to here
	due           int // the latest end of a child
}

// root is the task that a run begins with.
func root(args []int64) task {
	t := task{depth: 1, node: api.Node{Parent: -1, Ped: rootPed}}
	copy(t.regs[:], args)
	return t
}

// play runs a task from its beginning to its return, and each child at its spawn.
func (r *run) play(t task) (value int64, span int) {
	r.enter(&t)
	code := r.funcs[t.node.Func].Code
	for at := 0; ; {
		r.pay(&t)
		i := code[at]
		at++
		switch i.Kind {
		case api.IJump:
			at = i.A
		case api.IBranch:
			if t.regs[i.A] != 0 {
				at = i.B
			}
		case api.ISpawn:
			r.spawn(&t, i)
		case api.ISync:
			t.wait()
		case api.IReturn:
			t.node.V = t.regs[i.A]
			r.leave(&t)
			return t.node.V, t.span
		default:
			t.compute(i)
		}
	}
}

// enter counts a task that begins.
func (r *run) enter(t *task) {
	if t.depth > api.MaxDepth {
		giveUp(api.ErrDeep)
	}
	t.number = r.tasks
	r.tasks++
	r.depth = max(r.depth, t.depth)
	// Without a parameter all registers are 0 by now, the first one too.
	t.node.Arg = t.regs[0]
	if r.lists {
		r.nodes = append(r.nodes, t.node)
	}
}

// leave lays down what a task has come to, in the place that it took when it began.
func (r *run) leave(t *task) {
	if r.lists {
		r.nodes[t.number] = t.node
	}
}

// pay takes the cost of one instruction.
func (r *run) pay(t *task) {
	if r.fuel == 0 {
		giveUp(api.ErrFuel)
	}
	r.fuel--
	t.node.Work++
	t.span++
}

// spawn plays a child to its end.
func (r *run) spawn(t *task, i api.Instr) {
	value, span := r.play(t.child(i, r.funcs[i.B].Params))
	t.slots[i.A] = value
	t.due = max(t.due, t.span+span)
}

// child is the task that a spawn begins.
func (t *task) child(i api.Instr, params int) task {
	c := task{depth: t.depth + 1}
	c.node = api.Node{Parent: t.number, Index: t.spawned, Func: i.B, Ped: Ped(t.node.Ped, t.spawned)}
	t.spawned++
	// One by one: where there is no parameter, C may be the number of no register.
	for k := range params {
		c.regs[k] = t.regs[i.C+k]
	}
	return c
}

// wait lets a sync, which is paid for by now, come behind all children. Those of earlier syncs ended ahead of them, so the latest end need not be forgotten.
func (t *task) wait() { t.span = max(t.span, t.due+1) }

// compute does an instruction that touches nothing but its own task, and behind which the next one follows.
func (t *task) compute(i api.Instr) {
	switch i.Kind {
	case api.IConst:
		t.regs[i.A] = i.K
	case api.IMove:
		t.regs[i.A] = t.regs[i.B]
	case api.IArith:
		// No error: the number of the operation was checked with the program.
		t.regs[i.A], _ = ops.Apply(int(i.K), t.regs[i.B], t.regs[i.C])
	case api.ILoad:
		t.regs[i.A] = t.slots[i.B]
	case api.IPed:
		t.regs[i.A] = t.node.Ped
	}
}
