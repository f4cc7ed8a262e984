package trim

import "plunder/api"

// target is the field that tells where a jump or a branch goes to; nil for the other kinds.
func target(i *api.Instr) *int {
	switch i.Kind {
	case api.IJump:
		return &i.A
	case api.IBranch:
		return &i.B
	}
	return nil
}

// exits are the places at which an instruction may go on.
func exits(at int, i api.Instr) []int {
	switch i.Kind {
	case api.IJump:
		return []int{i.A}
	case api.IBranch:
		return []int{at + 1, i.B}
	case api.IReturn:
		return nil
	}
	return []int{at + 1}
}

// comers tells for each place the places that may go on at it.
func comers(code []api.Instr) [][]int {
	from := make([][]int, len(code))
	for at, i := range code {
		for _, to := range exits(at, i) {
			from[to] = append(from[to], at)
		}
	}
	return from
}

// reached tells for each place whether a path leads to it.
func reached(code []api.Instr) []bool {
	met := make([]bool, len(code))
	met[0] = true
	open := []int{0}
	for len(open) > 0 {
		at := open[len(open)-1]
		open = open[:len(open)-1]
		for _, to := range exits(at, code[at]) {
			if !met[to] {
				met[to] = true
				open = append(open, to)
			}
		}
	}
	return met
}
