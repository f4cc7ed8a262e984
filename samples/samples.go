// Package samples: programs to try the layers with: some that stand in the document, and as many valid ones as are drawn. Only tests use it; what is drawn comes from them, as this program has no random source.
package samples

import (
	"slices"

	"plunder/api"
	"plunder/asm"
)

// Sum is chapter 6's program P: the sum of 1 to n, a task for each number.
func Sum() api.Program {
	return asm.Program(asm.Func(1, 4, 2,
		asm.Branch(0, 2), asm.Return(0),
		asm.Const(1, 1), asm.Arith(2, 0, api.Sub, 1), asm.Spawn(0, 0, 2), asm.Sync(),
		asm.Load(3, 0), asm.Arith(3, 3, api.Add, 0), asm.Return(3)))
}

// Pair is the program of chapter 6's example 7: two children that tell their pedigrees.
func Pair() api.Program {
	return asm.Program(
		asm.Func(0, 3, 2, asm.Spawn(0, 1, 0), asm.Spawn(1, 1, 0), asm.Sync(), asm.Load(0, 0), asm.Load(1, 1), asm.Arith(2, 0, api.Sub, 1), asm.Return(2)),
		asm.Func(0, 1, 0, asm.Ped(0), asm.Return(0)))
}

// Fib tells Fibonacci's numbers: each task but the leaves spawns two of its own function.
func Fib() api.Program {
	return asm.Program(asm.Func(1, 4, 2,
		asm.Const(1, 2), asm.Arith(2, 0, api.Lt, 1), asm.Branch(2, 13),
		asm.Const(1, 1), asm.Arith(3, 0, api.Sub, 1), asm.Spawn(0, 0, 3), asm.Arith(3, 3, api.Sub, 1), asm.Spawn(1, 0, 3), asm.Sync(),
		asm.Load(1, 0), asm.Load(2, 1), asm.Arith(0, 1, api.Add, 2), asm.Return(0), asm.Return(0)))
}

// Five is the program of chapter 11's example 1: a constant.
func Five() api.Program {
	return asm.Program(asm.Func(0, 1, 0, asm.Const(0, 5), asm.Return(0)))
}

// One is the program of chapter 11's example 3: one child, which gives its argument back.
func One() api.Program {
	return asm.Program(
		asm.Func(1, 2, 1, asm.Spawn(0, 1, 0), asm.Sync(), asm.Load(1, 0), asm.Return(1)),
		asm.Func(1, 1, 0, asm.Return(0)))
}

// Count counts its argument down to 0, by one task without children.
func Count() api.Program {
	return asm.Program(asm.Func(1, 2, 0, asm.Const(1, 1), asm.Arith(0, 0, api.Sub, 1), asm.Branch(0, 1), asm.Return(0)))
}

// What stands in the room behind the ends of a copy's lists.
const (
	roomRegs = -3
	roomKind = -7
)

// Copied is a program in memory of its own, with something in the room behind the ends of its lists.
func Copied(p api.Program) api.Program {
	q := api.Program{Funcs: append(slices.Clone(p.Funcs), api.Func{Regs: roomRegs})}
	for f := range p.Funcs {
		code := append(slices.Clone(p.Funcs[f].Code), api.Instr{Kind: roomKind})
		q.Funcs[f].Code = code[:len(code)-1]
	}
	q.Funcs = q.Funcs[:len(p.Funcs)]
	return q
}

// Untouched tells whether a copy that Copied made of a program is as it was, in the room behind the ends of its lists too.
func Untouched(q, p api.Program) bool {
	n := len(q.Funcs)
	if !slices.EqualFunc(q.Funcs, p.Funcs, sameFunc) || q.Funcs[:n+1][n].Regs != roomRegs {
		return false
	}
	for _, f := range q.Funcs {
		if n := len(f.Code); f.Code[:n+1][n] != (api.Instr{Kind: roomKind}) {
			return false
		}
	}
	return true
}

func sameFunc(f, g api.Func) bool {
	return f.Params == g.Params && f.Regs == g.Regs && f.Slots == g.Slots && slices.Equal(f.Code, g.Code)
}
