package parlib

import (
	"slices"

	"plunder/api"
	"plunder/asm"
)

// The added functions.
const (
	entryFunc = iota // with n and the grain: begins with the range of all indices
	rangeFunc        // with a range and the grain: both halves, or a leaf
	added
)

// Registers of the entry's task. The arguments of its child stand side by side.
const (
	entryN = iota
	entryGrain
	allLo
	allHi
	allGrain
	entryValue
	entryNone
	entryRegs
)

// Registers of a range's task. Side by side stand the arguments of the right half (which are its own, with another first index), of the left half, and of the combining function.
const (
	ownLo = iota // in a leaf, the index that comes next
	ownHi
	ownGrain
	leftLo
	leftHi
	leftGrain
	sum
	item
	size
	one
	more
	rangeRegs
)

// Places in the code of a range.
const (
	leafAt = 3          // behind the choice
	loopAt = leafAt + 2 // behind what a leaf begins with
)

// merging makes the instructions that load two values, or one more, into sum and item, and put what becomes of both into sum.
type merging func(loads ...api.Instr) []api.Instr

// forAll is For's program. No value is looked at: sum is 0 all the time.
func forAll(base api.Program, body int) api.Program {
	nothing := func(...api.Instr) []api.Instr { return nil }
	return made(base, body, 0, nothing)
}

// foldAll is Reduce's program.
func foldAll(base api.Program, body, comb int, unit int64) api.Program {
	comb = behind(added)(comb)
	combine := func(loads ...api.Instr) []api.Instr {
		return append(loads, asm.Spawn(0, comb, sum), asm.Sync(), asm.Load(sum, 0))
	}
	return made(base, body, unit, combine)
}

// made is a program for all indices. The body is numbered as in the base.
func made(base api.Program, body int, unit int64, merge merging) api.Program {
	body = behind(added)(body)
	return ahead(base, entry(unit), ranged(leaf(body, unit, merge), halves(merge)))
}

// ahead is a program of some functions and, behind them, those of the base.
func ahead(base api.Program, funcs ...api.Func) api.Program {
	renumber := behind(len(funcs))
	for _, f := range base.Funcs {
		funcs = append(funcs, copied(f, renumber))
	}
	return asm.Program(funcs...)
}

// entry is the function that a run begins with.
func entry(unit int64) api.Func {
	const end = 10
	return asm.Func(2, entryRegs, 1,
		asm.Const(entryValue, unit), asm.Const(allLo, 0), asm.Arith(entryNone, entryN, api.Le, allLo), asm.Branch(entryNone, end),
		asm.Const(allGrain, 1), asm.Arith(allGrain, entryGrain, api.Max, allGrain), asm.Move(allHi, entryN),
		asm.Spawn(0, rangeFunc, allLo), asm.Sync(), asm.Load(entryValue, 0),
		asm.Return(entryValue))
}

// ranged is the function of a range. A leaf is no task of its own: each task takes a frame in a run by workers.
func ranged(leaf, halves []api.Instr) api.Func {
	choice := []api.Instr{asm.Arith(size, ownHi, api.Sub, ownLo), asm.Arith(more, ownGrain, api.Lt, size), asm.Branch(more, leafAt+len(leaf))}
	return asm.Func(3, rangeRegs, 2, slices.Concat(choice, leaf, halves)...)
}

// leaf is the code for a range that is not halved, from leafAt on. There is an index: only [0, n) could have none, and the entry looks at that.
func leaf(body int, unit int64, merge merging) []api.Instr {
	return slices.Concat(
		[]api.Instr{asm.Const(sum, unit), asm.Const(one, 1)},
		[]api.Instr{asm.Spawn(0, body, ownLo), asm.Sync()},
		merge(asm.Load(item, 0)),
		[]api.Instr{asm.Arith(ownLo, ownLo, api.Add, one), asm.Arith(more, ownLo, api.Lt, ownHi), asm.Branch(more, loopAt), asm.Return(sum)})
}

// halves is the code for a range that is halved.
func halves(merge merging) []api.Instr {
	return slices.Concat(
		[]api.Instr{asm.Const(leftHi, 2), asm.Arith(leftHi, size, api.Div, leftHi), asm.Arith(leftHi, ownLo, api.Add, leftHi)},
		[]api.Instr{asm.Move(leftLo, ownLo), asm.Move(leftGrain, ownGrain), asm.Spawn(0, rangeFunc, leftLo)},
		[]api.Instr{asm.Move(ownLo, leftHi), asm.Spawn(1, rangeFunc, ownLo), asm.Sync()},
		merge(asm.Load(sum, 0), asm.Load(item, 1)),
		[]api.Instr{asm.Return(sum)})
}
