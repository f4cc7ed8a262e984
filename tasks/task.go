// Package tasks: tasks of a program that is being run: what each does for itself, and how they follow one another if each child is run at its spawn. It serves the layers that run programs, and believes what it is given: programs that prog.Check takes, with as many arguments as their entry asks for.
package tasks

import (
	"plunder/api"
	"plunder/ops"
)

// Pedigrees: the root's, and what a parent's is multiplied by.
const (
	rootPed   = 1
	pedFactor = 1000003
)

// Task is one activation of a function, as far as no other task touches it. It is a plain value, so each has registers of its own.
type Task struct {
	Func    int // its function
	At      int // the instruction that comes next
	Regs    [api.MaxRegs]int64
	Ped     int64 // its pedigree
	Spawned int   // children so far
}

// Root is the task that a run begins with.
func Root(args []int64) Task {
	t := Task{Ped: rootPed}
	copy(t.Regs[:], args)
	return t
}

// Ped tells the pedigree of a task's k-th child.
func Ped(parent int64, k int) int64 { return parent*pedFactor + int64(k) + 1 }

// Child is the task that the ISpawn i begins, with so many parameters.
func (t *Task) Child(i api.Instr, params int) Task {
	c := Task{Func: i.B, Ped: Ped(t.Ped, t.Spawned)}
	t.Spawned++
	// One by one: where there is no parameter, C may be the number of no register.
	for k := range params {
		c.Regs[k] = t.Regs[i.C+k]
	}
	return c
}

// Do does an instruction that touches nothing but its own task; At stands behind it by now. Of the other kinds it does nothing.
func (t *Task) Do(i api.Instr) {
	switch i.Kind {
	case api.IConst:
		t.Regs[i.A] = i.K
	case api.IMove:
		t.Regs[i.A] = t.Regs[i.B]
	case api.IArith:
		// No error: the number of the operation was checked with the program.
		t.Regs[i.A], _ = ops.Apply(int(i.K), t.Regs[i.B], t.Regs[i.C])
	case api.IJump:
		t.At = i.A
	case api.IBranch:
		if t.Regs[i.A] != 0 {
			t.At = i.B
		}
	case api.IPed:
		t.Regs[i.A] = t.Ped
	}
}
