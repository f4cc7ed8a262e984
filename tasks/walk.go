package tasks

import "plunder/api"

// Turn is a task in a serial run.
type Turn struct {
	Task
	Slots  [api.MaxSlots]int64
	Parent *Turn // nil: it is the root
	Slot   int   // the slot of its parent that its value comes into
	Number int   // how many tasks began ahead of it
	Work   int   // how many instructions it has executed
}

// walk is one serial run, and who watches it.
type walk struct {
	funcs []api.Func
	watch func(t *Turn, i api.Instr)
	tasks int
}

// Walk runs a program serially and shows each instruction to watch, ahead of executing it. It is for runs that are known to come to an end.
func Walk(funcs []api.Func, args []int64, watch func(t *Turn, i api.Instr)) {
	w := walk{funcs: funcs, watch: watch}
	w.play(Turn{Task: Root(args)})
}

// play runs a task from its beginning to its return, and each child at its spawn.
func (w *walk) play(t Turn) int64 {
	t.Number = w.tasks
	w.tasks++
	code := w.funcs[t.Func].Code
	for {
		i := code[t.At]
		w.watch(&t, i)
		t.Work++
		t.At++
		switch i.Kind {
		case api.ISpawn:
			t.Slots[i.A] = w.play(Turn{Task: t.Child(i, w.funcs[i.B].Params), Parent: &t, Slot: i.A})
		case api.ILoad:
			t.Regs[i.A] = t.Slots[i.B]
		case api.IReturn:
			return t.Regs[i.A]
		default:
			t.Do(i)
		}
	}
}
