package dag

import (
	"slices"

	"plunder/api"
	"plunder/tasks"
)

// trace is the dag of a run, as far as the run has come.
type trace struct {
	dag   api.Dag
	lasts []int   // by task, the node of the instruction that it executed last
	ends  [][]int // by task, the returns of children that it has not waited for
}

// ofRun runs a program, of which it is known that it ends soon.
func ofRun(p api.Program, args []int64) api.Dag {
	r := &trace{}
	tasks.Walk(p.Funcs, args, r.add)
	return r.dag
}

// add adds the node of an instruction, and the edges to it.
func (r *trace) add(t *tasks.Turn, i api.Instr) {
	node := r.dag.N
	r.dag.N++
	for _, from := range r.froms(t, i) {
		r.dag.Edges = append(r.dag.Edges, api.Edge{From: from, To: node})
	}
	r.lasts[t.Number] = node
	if i.Kind == api.IReturn && t.Parent != nil {
		r.ends[t.Parent.Number] = append(r.ends[t.Parent.Number], node)
	}
}

// froms tells the nodes that an instruction has to wait for, rising.
func (r *trace) froms(t *tasks.Turn, i api.Instr) []int {
	if t.Work == 0 {
		r.lasts, r.ends = append(r.lasts, 0), append(r.ends, nil)
	}
	var froms []int
	switch {
	case t.Work > 0:
		froms = append(froms, r.lasts[t.Number])
	case t.Parent != nil:
		froms = append(froms, r.lasts[t.Parent.Number])
	}
	if i.Kind == api.ISync {
		froms = append(froms, r.ends[t.Number]...)
		r.ends[t.Number] = nil
		slices.Sort(froms)
	}
	return froms
}
