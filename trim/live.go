package trim

import "plunder/api"

// registers is a set of registers, a bit each: there are at most sixteen.
type registers uint16

func (s registers) has(r int) bool { return s&only(r) != 0 }

func only(r int) registers { return 1 << r }

// reads tells which registers an instruction reads.
func reads(i api.Instr, funcs []api.Func) registers {
	switch i.Kind {
	case api.IMove:
		return only(i.B)
	case api.IArith:
		return only(i.B) | only(i.C)
	case api.IBranch, api.IReturn:
		return only(i.A)
	case api.ISpawn:
		return arguments(i.C, funcs[i.B].Params)
	}
	return 0
}

// arguments are n registers from first on. Where n is 0, first may be the number of none.
func arguments(first, n int) registers {
	all := registers(0)
	for k := range n {
		all |= only(first + k)
	}
	return all
}

// writes tells which register an instruction writes, if it writes one.
func writes(i api.Instr) registers {
	switch i.Kind {
	case api.IConst, api.IMove, api.IArith, api.ILoad, api.IPed:
		return only(i.A)
	}
	return 0
}

// live tells which registers are live behind each place. It goes back from the end, since most places are then looked at but once; one that gets more registers is looked at again.
func live(code []api.Instr, funcs []api.Func) []registers {
	behind := make([]registers, len(code))
	from := comers(code)
	open := make([]int, len(code))
	for at := range open {
		open[at] = at
	}
	for len(open) > 0 {
		at := open[len(open)-1]
		open = open[:len(open)-1]
		ahead := reads(code[at], funcs) | behind[at]&^writes(code[at])
		for _, earlier := range from[at] {
			if ahead&^behind[earlier] != 0 {
				behind[earlier] |= ahead
				open = append(open, earlier)
			}
		}
	}
	return behind
}
