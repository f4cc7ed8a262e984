package parlib

import (
	"slices"

	"plunder/api"
)

// numbering tells the new number of a function.
type numbering func(number int) int

// behind gives functions the numbers that they have behind so many others.
func behind(others int) numbering {
	return func(number int) int { return number + others }
}

// copied is a function in memory of its own, with the new numbers in its spawns.
func copied(f api.Func, renumber numbering) api.Func {
	code := make([]api.Instr, len(f.Code))
	copy(code, f.Code)
	for at := range code {
		if code[at].Kind == api.ISpawn {
			code[at].B = renumber(code[at].B)
		}
	}
	f.Code = code
	return f
}

// alone is the program of which a function of the base is the entry. It has only those functions that this one may come to: each call of a fold has its program checked anew.
func alone(base api.Program, entry int) api.Program {
	kept := []int{entry}
	for at := 0; at < len(kept); at++ {
		for _, i := range base.Funcs[kept[at]].Code {
			if i.Kind == api.ISpawn && !slices.Contains(kept, i.B) {
				kept = append(kept, i.B)
			}
		}
	}
	place := func(number int) int { return slices.Index(kept, number) }
	p := api.Program{}
	for _, number := range kept {
		p.Funcs = append(p.Funcs, copied(base.Funcs[number], place))
	}
	return p
}
