package trim_test

import (
	"slices"

	"plunder/api"
	"plunder/asm"
)

// Short names for what programs are made of.
var (
	program = asm.Program
	fn      = asm.Func
	konst   = asm.Const
	move    = asm.Move
	arith   = asm.Arith
	jump    = asm.Jump
	branch  = asm.Branch
	spawn   = asm.Spawn
	wait    = asm.Sync()
	load    = asm.Load
	ped     = asm.Ped
	give    = asm.Return
)

// nexts tells by chapter 5's table where an instruction goes on.
func nexts(at int, i api.Instr) []int {
	switch i.Kind {
	case api.IJump:
		return []int{i.A}
	case api.IBranch:
		return []int{at + 1, i.B}
	case api.IReturn:
		return nil
	}
	return []int{at + 1}
}

// readsIt tells by 18.1 whether an instruction reads a register.
func readsIt(p api.Program, i api.Instr, r int) bool {
	switch i.Kind {
	case api.IMove:
		return r == i.B
	case api.IArith:
		return r == i.B || r == i.C
	case api.IBranch, api.IReturn:
		return r == i.A
	case api.ISpawn:
		n := p.Funcs[i.B].Params
		return n > 0 && i.C <= r && r <= i.C+n-1
	}
	return false
}

// writesOne tells by 18.1 whether an instruction writes a register: it is A.
func writesOne(i api.Instr) bool {
	return slices.Contains([]int{api.IConst, api.IMove, api.IArith, api.ILoad, api.IPed}, i.Kind)
}

// isLive is 18.2: it looks along all lists of places behind one for a reader ahead of all writers.
func isLive(p api.Program, f, at, r int) bool {
	code := p.Funcs[f].Code
	met := map[int]bool{}
	var found func(at int) bool
	found = func(at int) bool {
		if met[at] {
			return false
		}
		met[at] = true
		if readsIt(p, code[at], r) {
			return true
		}
		return !(writesOne(code[at]) && code[at].A == r) && slices.ContainsFunc(nexts(at, code[at]), found)
	}
	return slices.ContainsFunc(nexts(at, code[at]), found)
}

// liveRows is 18.3 of a function of a valid program.
func liveRows(p api.Program, f int) [][]bool {
	rows := make([][]bool, len(p.Funcs[f].Code))
	for at := range rows {
		rows[at] = make([]bool, p.Funcs[f].Regs)
		for r := range rows[at] {
			rows[at][r] = isLive(p, f, at, r)
		}
	}
	return rows
}

// ends tells for each place the sets of pending slots, a bit each, with which paths end there. Which of the others are full does not matter.
func ends(f api.Func) []map[int]bool {
	met := make([]map[int]bool, len(f.Code))
	var visit func(at, open int)
	visit = func(at, open int) {
		if met[at][open] {
			return
		}
		if met[at] == nil {
			met[at] = map[int]bool{}
		}
		met[at][open] = true
		switch i := f.Code[at]; i.Kind {
		case api.ISpawn:
			open |= 1 << i.A
		case api.ISync:
			open = 0
		}
		for _, next := range nexts(at, f.Code[at]) {
			visit(next, open)
		}
	}
	visit(0, 0)
	return met
}

func anyOpen(sets map[int]bool) bool {
	for open := range sets {
		if open != 0 {
			return true
		}
	}
	return false
}

// kinds tells by 18.4 how the instructions of a function are loose: for each place the numbers of what holds.
func kinds(p api.Program, f int) [][]int {
	code := p.Funcs[f].Code
	met := ends(p.Funcs[f])
	list := make([][]int, len(code))
	for at, i := range code {
		to := -1
		switch i.Kind {
		case api.IJump:
			to = i.A
		case api.IBranch:
			to = i.B
		}
		for kind, holds := range []bool{
			1: len(met[at]) == 0,
			2: i.Kind == api.IMove && i.A == i.B,
			3: to == at+1,
			4: to >= 0 && code[to].Kind == api.IJump && code[to].A != to,
			5: writesOne(i) && !isLive(p, f, at, i.A),
			6: i.Kind == api.ISync && !anyOpen(met[at]),
		} {
			if holds {
				list[at] = append(list[at], kind)
			}
		}
	}
	return list
}

// neat is 18.5 of a valid program.
func neat(p api.Program) api.Fault {
	for f := range p.Funcs {
		for at, list := range kinds(p, f) {
			if len(list) > 0 {
				return api.Fault{Err: api.ErrLoose, Func: f, At: at}
			}
		}
	}
	return api.Fault{}
}
