// Package asm: instructions, functions and programs, made by name. It checks nothing: that is what prog.Check is for.
package asm

import "plunder/api"

// Program is a program of these functions, the entry first.
func Program(funcs ...api.Func) api.Program { return api.Program{Funcs: funcs} }

// Func is a function of this code.
func Func(params, regs, slots int, code ...api.Instr) api.Func {
	return api.Func{Params: params, Regs: regs, Slots: slots, Code: code}
}

// Const: r[a] = k.
func Const(a int, k int64) api.Instr { return api.Instr{Kind: api.IConst, A: a, K: k} }

// Move: r[a] = r[b].
func Move(a, b int) api.Instr { return api.Instr{Kind: api.IMove, A: a, B: b} }

// Arith: r[a] = r[b] op r[c].
func Arith(a, b, op, c int) api.Instr {
	return api.Instr{Kind: api.IArith, A: a, B: b, C: c, K: int64(op)}
}

// Jump: go to the instruction at.
func Jump(at int) api.Instr { return api.Instr{Kind: api.IJump, A: at} }

// Branch: if r[a] is not 0 go to the instruction at.
func Branch(a, at int) api.Instr { return api.Instr{Kind: api.IBranch, A: a, B: at} }

// Spawn: spawn the function f, with the registers from first on as its arguments, into a slot.
func Spawn(slot, f, first int) api.Instr {
	return api.Instr{Kind: api.ISpawn, A: slot, B: f, C: first}
}

// Sync: wait for all children.
func Sync() api.Instr { return api.Instr{Kind: api.ISync} }

// Load: r[a] = the slot's value.
func Load(a, slot int) api.Instr { return api.Instr{Kind: api.ILoad, A: a, B: slot} }

// Ped: r[a] = the task's pedigree.
func Ped(a int) api.Instr { return api.Instr{Kind: api.IPed, A: a} }

// Return: end with r[a].
func Return(a int) api.Instr { return api.Instr{Kind: api.IReturn, A: a} }
