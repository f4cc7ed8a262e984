package races

import (
	"plunder/api"
	"plunder/tasks"
)

// trace is the deeds of a run, as far as the run has come.
type trace struct {
	deeds []api.Deed
}

// ofRun runs a program, of which it is known that it ends, and tells its deeds; of too many it tells one too many.
func ofRun(p api.Program, args []int64) []api.Deed {
	r := &trace{}
	tasks.Walk(p.Funcs, args, r.add)
	return r.deeds
}

// add adds the deeds of an instruction.
func (r *trace) add(t *tasks.Turn, i api.Instr) {
	switch i.Kind {
	case api.ISpawn:
		r.note(api.Deed{Kind: api.DSpawn})
	case api.ISync:
		r.note(api.Deed{Kind: api.DSync})
	case api.ILoad:
		r.note(api.Deed{Kind: api.DRead, Loc: slotPlace(t, i.B)})
	case api.IReturn:
		if t.Parent != nil {
			r.note(api.Deed{Kind: api.DWrite, Loc: slotPlace(t.Parent, t.Slot)})
			r.note(api.Deed{Kind: api.DReturn})
		}
	}
}

// note takes in a deed. A long run may have millions of them, of which no more have to be kept than show that there are too many.
func (r *trace) note(d api.Deed) {
	if len(r.deeds) <= api.MaxDeeds {
		r.deeds = append(r.deeds, d)
	}
}

// slotPlace tells the place of a task's slot.
func slotPlace(t *tasks.Turn, slot int) int64 { return int64(t.Number*api.MaxSlots + slot) }
