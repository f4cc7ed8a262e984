package trim_test

import (
	"slices"
	"testing"

	"plunder/api"
	"plunder/prog"
)

// alphabet is what a function of so many instructions is made of, where it has one parameter, two registers and a slot.
func alphabet(places int) []api.Instr {
	list := []api.Instr{konst(0, 0), konst(1, 1), move(0, 1), move(1, 1), arith(1, 1, api.Sub, 0), spawn(0, 1, 0), wait, load(0, 0), ped(1), give(0), give(1)}
	for at := range places {
		list = append(list, jump(at), branch(0, at), branch(1, at))
	}
	return list
}

// eachShort calls a function with all codes of so many instructions.
func eachShort(places int, do func(code []api.Instr)) {
	list := alphabet(places)
	code := make([]api.Instr, places)
	var fill func(at int)
	fill = func(at int) {
		if at == places {
			do(code)
			return
		}
		for _, i := range list {
			code[at] = i
			fill(at + 1)
		}
	}
	fill(0)
}

// 18.2 to 18.11, P13: all short functions.
func TestAllShort(t *testing.T) {
	t.Parallel()
	child := fn(1, 1, 0, give(0))
	valid, ended, endless := 0, 0, 0
	for places := 1; places <= 4; places++ {
		eachShort(places, func(code []api.Instr) {
			p := program(fn(1, 2, 1, slices.Clone(code)...), child)
			if prog.Check(p).Err != api.OK {
				return
			}
			valid++
			q := trimmed(t, p)
			for n := range int64(2) {
				if means(t, p, q, []int64{n}, 20) == api.OK {
					ended++
				} else {
					endless++
				}
			}
		})
	}
	if valid < 50000 || ended < 20000 || endless < 5000 {
		t.Errorf("only %d functions are valid, %d runs of them end, %d do not", valid, ended, endless)
	}
}
