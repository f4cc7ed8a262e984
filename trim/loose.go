package trim

import (
	"plunder/api"
	"plunder/prog"
)

// pending is prog's number for the state of a slot whose child has not been waited for.
const pending = 2

// none is where a loose instruction stands if there is none.
const none = -1

// firstLoose is the first place of a function of a valid program whose instruction is loose.
func firstLoose(f api.Func, funcs []api.Func) int {
	b, idle := look(f.Code, funcs), idleSyncs(f)
	for at := range f.Code {
		if idle[at] || b.needless(at) || b.detours(at) {
			return at
		}
	}
	return none
}

// idleSyncs marks the syncs that never have a child to wait for.
func idleSyncs(f api.Func) []bool {
	idle := make([]bool, len(f.Code))
	for at, states := range prog.Flow(f) {
		idle[at] = f.Code[at].Kind == api.ISync && !anyPending(states)
	}
	return idle
}

func anyPending(states []int) bool {
	for _, s := range states {
		if s&pending != 0 {
			return true
		}
	}
	return false
}

// body is the code of a function, with what is known of its places. Of syncs it knows nothing.
type body struct {
	code    []api.Instr
	reached []bool
	live    []registers // behind each place
}

func look(code []api.Instr, funcs []api.Func) body {
	return body{code: code, reached: reached(code), live: live(code, funcs)}
}

// needless tells whether an instruction, be it no sync, may be taken out: a run never comes to it, or always goes on behind it, and nothing that it did is seen.
func (b body) needless(at int) bool {
	i := b.code[at]
	return !b.reached[at] || i.Kind == api.IMove && i.A == i.B || goesNext(b.code, at) || writes(i)&^b.live[at] != 0
}

// goesNext tells whether a jump or a branch goes to where a run comes anyway.
func goesNext(code []api.Instr, at int) bool {
	to := target(&code[at])
	return to != nil && *to == at+1
}

// detours tells whether an instruction goes to another place only to be sent on from there.
func (b body) detours(at int) bool {
	to := target(&b.code[at])
	return to != nil && sendsOn(b.code, *to)
}

// sendsOn tells whether a jump to elsewhere stands at a place.
func sendsOn(code []api.Instr, at int) bool {
	return code[at].Kind == api.IJump && code[at].A != at
}
