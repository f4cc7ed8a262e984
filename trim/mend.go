package trim

import (
	"slices"

	"plunder/api"
)

// trimmed is a function without loose instructions, in memory of its own. Syncs go first, and but once: nothing that is mended later changes what a path does to the slots. All else is looked at again and again: with its last reader a value goes, with what stands between a jump and its target the jump.
func trimmed(f api.Func, funcs []api.Func) api.Func {
	idle := idleSyncs(f)
	f.Code = shortened(f.Code, func(_ []api.Instr, at int) bool { return idle[at] })
	for {
		old := f.Code
		f.Code = look(old, funcs).mended()
		if slices.Equal(f.Code, old) {
			return f
		}
	}
}

// mended is new code without what is loose. All of it goes at once: none of it is needed by what stays, and where a run comes to some of it, each only leads to the next, and the last one to one that stays.
func (b body) mended() []api.Instr {
	return shortened(b.straight(), func(code []api.Instr, at int) bool {
		// Of jumps over what has just gone, many would else go one by one.
		return b.needless(at) || goesNext(code, at)
	})
}

// straight is new code, in which jumps and branches go straight to where they are sent on to.
func (b body) straight() []api.Instr {
	code := slices.Clone(b.code)
	for at := range code {
		if to := target(&code[at]); to != nil {
			*to = end(b.code, *to)
		}
	}
	return code
}

// end is the place to which the jumps lead that begin at a place. Where they go round for ever, it is the lowest place of the round, whose own end is itself: so it comes to be a jump to itself.
func end(code []api.Instr, at int) int {
	for range code {
		if !sendsOn(code, at) {
			return at
		}
		at = code[at].A
	}
	lowest := at
	for range code {
		at = code[at].A
		lowest = min(lowest, at)
	}
	return lowest
}

// shortened is code from which the instructions that are to go have been taken out. It goes from the end back, so that those it has not asked about stand where they stood.
func shortened(code []api.Instr, goes func(code []api.Instr, at int) bool) []api.Instr {
	for at := len(code) - 1; at >= 0; at-- {
		if goes(code, at) {
			code = without(code, at)
		}
	}
	return code
}

// without is code from which the instruction at a place has been taken out. What jumped to it goes to the one that comes to stand in its place. As the room of what is ahead is cut off, the two parts are joined in new memory: the old list may be the caller's.
func without(code []api.Instr, at int) []api.Instr {
	shorter := append(code[:at:at], code[at+1:]...)
	for k := range shorter {
		if to := target(&shorter[k]); to != nil && *to > at {
			*to--
		}
	}
	return shorter
}
