package serial

import (
	"plunder/api"
	"plunder/tasks"
)

// run is one serial run: the fuel that is left, and what has been counted so far.
type run struct {
	funcs        []api.Func
	fuel         int
	tasks, depth int
	lists        bool // whether nodes are kept
	nodes        []api.Node
}

// task is one activation of a function. It is played as a value, so no child can touch what is its parent's.
type task struct {
	tasks.Task
	slots         [api.MaxSlots]int64
	node          api.Node
	number, depth int
	span          int // the longest chain of instructions up to here
	due           int // the latest end of a child
}

// root is the task that a run begins with.
func root(args []int64) task {
	return task{Task: tasks.Root(args), node: api.Node{Parent: -1}, depth: 1}
}

// play runs a task from its beginning to its return, and each child at its spawn.
func (r *run) play(t task) (value int64, span int) {
	r.enter(&t)
	code := r.funcs[t.Func].Code
	for {
		r.pay(&t)
		i := code[t.At]
		t.At++
		switch i.Kind {
		case api.ISpawn:
			r.spawn(&t, i)
		case api.ISync:
			t.wait()
		case api.ILoad:
			t.Regs[i.A] = t.slots[i.B]
		case api.IReturn:
			t.node.V = t.Regs[i.A]
			r.leave(&t)
			return t.node.V, t.span
		default:
			t.Do(i)
		}
	}
}

// enter counts a task that begins.
func (r *run) enter(t *task) {
	if t.depth > api.MaxDepth {
		giveUp(api.ErrDeep)
	}
	t.number = r.tasks
	r.tasks++
	r.depth = max(r.depth, t.depth)
	// Without a parameter all registers are 0 by now, the first one too.
	t.node.Func, t.node.Ped, t.node.Arg = t.Func, t.Ped, t.Regs[0]
	if r.lists {
		r.nodes = append(r.nodes, t.node)
	}
}

// leave lays down what a task has come to, in the place that it took when it began.
func (r *run) leave(t *task) {
	if r.lists {
		r.nodes[t.number] = t.node
	}
}

// pay takes the cost of one instruction.
func (r *run) pay(t *task) {
	if r.fuel == 0 {
		giveUp(api.ErrFuel)
	}
	r.fuel--
	t.node.Work++
	t.span++
}

// spawn plays a child to its end.
func (r *run) spawn(t *task, i api.Instr) {
	node := api.Node{Parent: t.number, Index: t.Spawned}
	value, span := r.play(task{Task: t.Child(i, r.funcs[i.B].Params), node: node, depth: t.depth + 1})
	t.slots[i.A] = value
	t.due = max(t.due, t.span+span)
}

// wait lets a sync, which is paid for by now, come behind all children. Those of earlier syncs ended ahead of them, so the latest end need not be forgotten.
func (t *task) wait() { t.span = max(t.span, t.due+1) }
