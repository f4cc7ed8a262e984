package tasks_test

import (
	"math"
	"math/rand"
	"testing"

	"plunder/api"
	"plunder/asm"
	"plunder/ops"
	"plunder/prog"
	"plunder/samples"
	"plunder/serial"
	"plunder/tasks"
)

// A root has its arguments in its first registers, and the pedigree 1.
func TestRoot(t *testing.T) {
	args := []int64{4, -5, 6}
	root := tasks.Root(args)
	if want := (tasks.Task{Regs: [api.MaxRegs]int64{4, -5, 6}, Ped: 1}); root != want {
		t.Errorf("Root(%v) = %v", args, root)
	}
	if root := tasks.Root(nil); root != (tasks.Task{Ped: 1}) {
		t.Errorf("Root(nil) = %v", root)
	}
}

// A child takes its arguments from register C on, and none where it has no parameter, whatever C is.
func TestChild(t *testing.T) {
	parent := tasks.Task{Func: 3, At: 7, Regs: [api.MaxRegs]int64{10, 11, 12, 13}, Ped: 5, Spawned: 2}
	if c := parent.Child(asm.Spawn(6, 4, 1), 2); c != (tasks.Task{Func: 4, Regs: [api.MaxRegs]int64{11, 12}, Ped: 5*1000003 + 3}) {
		t.Errorf("the child is %v", c)
	}
	for k, first := range []int{math.MinInt, -1, 16, math.MaxInt} {
		if c := parent.Child(asm.Spawn(0, 0, first), 0); c != (tasks.Task{Ped: 5*1000003 + 4 + int64(k)}) {
			t.Errorf("the child is %v", c)
		}
	}
	if parent != (tasks.Task{Func: 3, At: 7, Regs: [api.MaxRegs]int64{10, 11, 12, 13}, Ped: 5, Spawned: 7}) {
		t.Errorf("the parent is %v", parent)
	}
}

// What each kind does to its own task, and that the others do nothing.
func TestDo(t *testing.T) {
	at := tasks.Task{Func: 1, At: 5, Regs: [api.MaxRegs]int64{0, 1, 20, 3}, Ped: 99, Spawned: 4}
	does := func(what string, i api.Instr, change func(t *tasks.Task)) {
		t.Helper()
		got, want := at, at
		got.Do(i)
		change(&want)
		if got != want {
			t.Errorf("%s: %v, want %v", what, got, want)
		}
	}
	nothing := func(*tasks.Task) {}
	does("IConst", asm.Const(15, -8), func(t *tasks.Task) { t.Regs[15] = -8 })
	does("IMove", asm.Move(0, 2), func(t *tasks.Task) { t.Regs[0] = 20 })
	for op := range api.NumOps {
		v, _ := ops.Apply(op, 20, 3)
		does("IArith", asm.Arith(1, 2, op, 3), func(t *tasks.Task) { t.Regs[1] = v })
	}
	does("IJump", asm.Jump(2), func(t *tasks.Task) { t.At = 2 })
	does("IBranch", asm.Branch(3, 2), func(t *tasks.Task) { t.At = 2 })
	does("IBranch at 0", asm.Branch(0, 2), nothing)
	does("IPed", asm.Ped(3), func(t *tasks.Task) { t.Regs[3] = 99 })
	for _, i := range []api.Instr{asm.Spawn(1, 1, 1), asm.Sync(), asm.Load(1, 1), asm.Return(1)} {
		does("another kind", i, nothing)
	}
}

// shown holds what Walk shows of a run against the run's tree.
type shown struct {
	t     *testing.T
	p     api.Program
	nodes []api.Node
	seen  []int          // by task, how many of its instructions were shown
	wants []int          // by task, the slot of its last spawn
	left  map[[2]int]int // by task and slot, the task whose value is there
	n     int
}

func (s *shown) watch(t *tasks.Turn, i api.Instr) {
	s.n++
	if t.Work == 0 {
		s.begin(t)
	}
	node := s.nodes[t.Number]
	if t.Work != s.seen[t.Number] || t.Func != node.Func || t.Ped != node.Ped || s.p.Funcs[t.Func].Code[t.At] != i {
		s.t.Fatalf("%v: shown %v of %v, want %v, instruction %d of it", s.p, i, t, node, s.seen[t.Number])
	}
	s.seen[t.Number]++
	switch i.Kind {
	case api.ISpawn:
		s.wants[t.Number] = i.A
	case api.ILoad:
		if child := s.left[[2]int{t.Number, i.B}]; t.Slots[i.B] != s.nodes[child].V {
			s.t.Fatalf("%v: slot %d of task %d holds %d, want the value of task %d, %d", s.p, i.B, t.Number, t.Slots[i.B], child, s.nodes[child].V)
		}
	case api.IReturn:
		if t.Regs[i.A] != node.V || t.Work+1 != node.Work {
			s.t.Fatalf("%v: task %d ends with %d behind %d, want %d, %d", s.p, t.Number, t.Regs[i.A], t.Work+1, node.V, node.Work)
		}
		if t.Parent != nil {
			s.left[[2]int{t.Parent.Number, t.Slot}] = t.Number
		}
	}
}

// begin is shown a task for the first time.
func (s *shown) begin(t *tasks.Turn) {
	if t.Number != len(s.seen) || t.At != 0 || t.Slots != [api.MaxSlots]int64{} {
		s.t.Fatalf("%v: a task begins as %v, behind %d others", s.p, t, len(s.seen))
	}
	s.seen, s.wants = append(s.seen, 0), append(s.wants, -1)
	parent := -1
	if t.Parent != nil {
		parent = t.Parent.Number
		if t.Slot != s.wants[parent] {
			s.t.Fatalf("%v: task %d is for slot %d, want %d", s.p, t.Number, t.Slot, s.wants[parent])
		}
	}
	if node := s.nodes[t.Number]; parent != node.Parent || t.Regs[0] != node.Arg {
		s.t.Fatalf("%v: task %d has the parent %d and the first argument %d, want %v", s.p, t.Number, parent, t.Regs[0], node)
	}
}

// Walk shows each instruction of a run, in the run's order.
func TestWalk(t *testing.T) {
	r := rand.New(rand.NewSource(7))
	large := 0
	for range 4000 {
		p := samples.Draw(r.Intn, true)
		if fault := prog.Check(p); fault.Err != api.OK {
			t.Fatalf("a drawn program is not valid: %v: %v", p, fault)
		}
		args := samples.Args(r.Intn, p)
		nodes, err := serial.Tree(p, args, 3000)
		if err != api.OK {
			continue
		}
		s := &shown{t: t, p: p, nodes: nodes, left: map[[2]int]int{}}
		tasks.Walk(p.Funcs, args, s.watch)
		if value, _ := serial.Eval(p, args, 3000); s.n != value.Work || len(s.seen) != value.Tasks {
			t.Fatalf("%v: %d instructions of %d tasks, want %v", p, s.n, len(s.seen), value)
		}
		if len(nodes) > 10 {
			large++
		}
	}
	if large < 100 {
		t.Errorf("too few runs of many tasks: %d", large)
	}
}
