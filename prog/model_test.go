package prog_test

import (
	"math"
	"math/rand"
	"slices"

	"plunder/api"
)

// fork is the chapter's function F.
func fork() api.Func {
	return api.Func{Params: 1, Regs: 4, Slots: 2, Code: []api.Instr{
		{Kind: api.IConst, A: 1, K: 2},
		{Kind: api.IArith, A: 2, B: 0, C: 1, K: api.Lt},
		{Kind: api.IBranch, A: 2, B: 13},
		{Kind: api.IConst, A: 1, K: 1},
		{Kind: api.IArith, A: 3, B: 0, C: 1, K: api.Sub},
		{Kind: api.ISpawn, A: 0, B: 0, C: 3},
		{Kind: api.IArith, A: 3, B: 3, C: 1, K: api.Sub},
		{Kind: api.ISpawn, A: 1, B: 0, C: 3},
		{Kind: api.ISync},
		{Kind: api.ILoad, A: 1, B: 0},
		{Kind: api.ILoad, A: 2, B: 1},
		{Kind: api.IArith, A: 0, B: 1, C: 2, K: api.Add},
		{Kind: api.IReturn, A: 0},
		{Kind: api.IReturn, A: 0},
	}}
}

// forkWith is F with another instruction at a place.
func forkWith(at int, i api.Instr) api.Func {
	f := fork()
	f.Code[at] = i
	return f
}

func program(funcs ...api.Func) api.Program { return api.Program{Funcs: funcs} }

func leaf() api.Func { return api.Func{Regs: 1, Code: []api.Instr{{Kind: api.IReturn}}} }

// states are the states of all slots at once.
type states [api.MaxSlots]int

// ends are all points at which paths end.
type ends map[int]map[states]bool

// nexts tells by the chapter's table where an instruction goes on.
func nexts(at int, i api.Instr) []int {
	switch i.Kind {
	case api.IJump:
		return []int{i.A}
	case api.IBranch:
		return []int{at + 1, i.B}
	case api.IReturn:
		return nil
	}
	return []int{at + 1}
}

// behind tells what an instruction makes of the slots.
func behind(i api.Instr, s states) states {
	if i.Kind == api.ISpawn {
		s[i.A] = 2
	}
	for slot := range s {
		if i.Kind == api.ISync && s[slot] == 2 {
			s[slot] = 4
		}
	}
	return s
}

// walk goes along all paths of a sound function, with all slots at once.
func walk(f api.Func) ends {
	first := states{1, 1, 1, 1, 1, 1, 1, 1}
	met := ends{}
	var visit func(at int, s states)
	visit = func(at int, s states) {
		if met[at][s] {
			return
		}
		if met[at] == nil {
			met[at] = map[states]bool{}
		}
		met[at][s] = true
		for _, next := range nexts(at, f.Code[at]) {
			visit(next, behind(f.Code[at], s))
		}
	}
	visit(0, first)
	return met
}

// rows tells the walk's states as Flow does.
func rows(f api.Func) [][]int {
	met := walk(f)
	l := make([][]int, len(f.Code))
	for at := range l {
		l[at] = make([]int, f.Slots)
		for s := range met[at] {
			for slot := range l[at] {
				l[at][slot] |= s[slot]
			}
		}
	}
	return l
}

// mayBe tells 5.2 of one instruction.
func mayBe(p api.Program, f api.Func, i api.Instr) bool {
	reg := func(x int) bool { return x >= 0 && x < f.Regs }
	slot := func(x int) bool { return x >= 0 && x < f.Slots }
	place := func(x int) bool { return x >= 0 && x < len(f.Code) }
	switch i.Kind {
	case api.IConst, api.IPed, api.IReturn:
		return reg(i.A)
	case api.IMove:
		return reg(i.A) && reg(i.B)
	case api.IArith:
		return reg(i.A) && reg(i.B) && reg(i.C) && i.K >= 0 && i.K <= 15
	case api.IJump:
		return place(i.A)
	case api.IBranch:
		return reg(i.A) && place(i.B)
	case api.ISync:
		return true
	case api.ILoad:
		return reg(i.A) && slot(i.B)
	case api.ISpawn:
		if !slot(i.A) || i.B < 0 || i.B >= len(p.Funcs) {
			return false
		}
		for k := range p.Funcs[i.B].Params {
			if i.C < 0 || i.C > 15 || !reg(i.C+k) {
				return false
			}
		}
		return true
	}
	return false
}

// wrongAt tells 5.3 of one place.
func wrongAt(i api.Instr, met map[states]bool) api.Errno {
	for s := range met {
		switch {
		case i.Kind == api.ISpawn && s[i.A] == 2:
			return api.ErrSpawn
		case i.Kind == api.ILoad && s[i.B] != 4:
			return api.ErrLoad
		case i.Kind == api.IReturn && slices.Contains(s[:], 2):
			return api.ErrOpen
		}
	}
	return api.OK
}

// model is Check of a program whose shapes are right.
func model(p api.Program) api.Fault {
	for number, f := range p.Funcs {
		for at, i := range f.Code {
			if !mayBe(p, f, i) {
				return api.Fault{Err: api.ErrInstr, Func: number, At: at}
			}
		}
		last := len(f.Code) - 1
		if k := f.Code[last].Kind; k != api.IJump && k != api.IReturn {
			return api.Fault{Err: api.ErrEnd, Func: number, At: last}
		}
	}
	for number, f := range p.Funcs {
		met := walk(f)
		for at, i := range f.Code {
			if err := wrongAt(i, met[at]); err != api.OK {
				return api.Fault{Err: err, Func: number, At: at}
			}
		}
	}
	return api.Fault{}
}

// drawFunc draws a function of a right shape, whose fields are at times those of no register, slot, place or function.
func drawFunc(r *rand.Rand, funcs int, odd bool) api.Func {
	f := api.Func{Regs: 1 + r.Intn(4), Slots: r.Intn(4)}
	f.Params = r.Intn(min(f.Regs, 2) + 1)
	f.Code = make([]api.Instr, 1+r.Intn(10))
	for at := range f.Code {
		f.Code[at] = drawInstr(r, f, funcs)
		if odd && r.Intn(30) == 0 {
			f.Code[at].A--
		}
		if odd && r.Intn(30) == 0 {
			f.Code[at].B++
		}
		if odd && r.Intn(30) == 0 {
			f.Code[at].C++
		}
	}
	last := len(f.Code) - 1
	if !odd || r.Intn(10) > 0 {
		f.Code[last] = []api.Instr{{Kind: api.IReturn, C: -1}, {Kind: api.IJump, A: r.Intn(last + 1)}}[r.Intn(2)]
	}
	return f
}

// drawInstr draws an instruction that may be in f, with anything in the fields that nobody looks at. Spawns and syncs are more frequent than others.
func drawInstr(r *rand.Rand, f api.Func, funcs int) api.Instr {
	kinds := []int{0, 1, 2, 3, 4, 4, 5, 5, 5, 6, 6, 6, 7, 7, 8, 9}
	i := api.Instr{Kind: kinds[r.Intn(len(kinds))], A: int(r.Uint64()), B: int(r.Uint64()), C: int(r.Uint64()), K: int64(r.Uint64())}
	for f.Slots == 0 && (i.Kind == api.ISpawn || i.Kind == api.ILoad) {
		i.Kind = r.Intn(10)
	}
	reg, place := func() int { return r.Intn(f.Regs) }, func() int { return r.Intn(len(f.Code)) }
	switch i.Kind {
	case api.IConst, api.IPed, api.IReturn:
		i.A = reg()
	case api.IMove:
		i.A, i.B = reg(), reg()
	case api.IArith:
		i.A, i.B, i.C, i.K = reg(), reg(), reg(), r.Int63n(16)
	case api.IJump:
		i.A = place()
	case api.IBranch:
		i.A, i.B = reg(), place()
	case api.ISpawn:
		i.A, i.B, i.C = r.Intn(f.Slots), r.Intn(funcs), reg()
	case api.ILoad:
		i.A, i.B = reg(), r.Intn(f.Slots)
	}
	return i
}

func drawProgram(r *rand.Rand, odd bool) api.Program {
	p := api.Program{Funcs: make([]api.Func, 1+r.Intn(3))}
	for number := range p.Funcs {
		p.Funcs[number] = drawFunc(r, len(p.Funcs), odd)
	}
	return p
}

// drawValid draws programs until one is valid by the model; it gives up on none of these seeds.
func drawValid(r *rand.Rand) api.Program {
	for range 10000 {
		if p := drawProgram(r, false); model(p).Err == api.OK {
			return p
		}
	}
	return program(leaf())
}

// copied is a program in memory of its own, with something in the room behind the ends of its lists.
func copied(p api.Program) api.Program {
	spare := api.Instr{Kind: -7, A: math.MinInt}
	q := api.Program{Funcs: append(slices.Clone(p.Funcs), api.Func{Regs: -3})}
	for number := range p.Funcs {
		code := append(slices.Clone(p.Funcs[number].Code), spare)
		q.Funcs[number].Code = code[:len(code)-1]
	}
	q.Funcs = q.Funcs[:len(p.Funcs)]
	return q
}
