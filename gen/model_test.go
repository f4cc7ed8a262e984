package gen_test

import (
	"plunder/api"
	"plunder/ops"
)

// model runs a right source by chapter 15, each spawn as a set, and notes the calls that are made. It is for runs that end.
type model struct {
	s     api.Source
	calls []call // in the order in which they begin; the first one is main's own
}

// call is one call of a function.
type call struct {
	fn, parent int // the function's number, and that of the call that made this one (-1: none)
	args       []int64
	v          int64
	deeds      []deed
	ranges     int // of its reduces and eaches

	added, own, span int // what a run of the program makes of it: tasks of added functions that it begins, its own instructions, its span
}

// deed is something that a call began or waited for: a spawn statement, a call in an expression, a reduce or an each, a sync statement.
type deed struct {
	kind     string
	fn       int   // the function that is spawned or called, or the body
	comb     int   // of a reduce
	n, grain int64 // of a reduce and an each
}

// env is a call that goes on.
type env struct {
	m      *model
	number int
	vars   map[string]int64
	v      int64
}

func newModel(s api.Source, args []int64) *model {
	m := &model{s: s}
	m.call(0, -1, args)
	return m
}

func (m *model) find(name string) int {
	for f, fn := range m.s.Fns {
		if fn.Name == name {
			return f
		}
	}
	return -1
}

func (m *model) call(fn, parent int, args []int64) int64 {
	e := &env{m: m, number: len(m.calls), vars: map[string]int64{}}
	m.calls = append(m.calls, call{fn: fn, parent: parent, args: args})
	for i, name := range m.s.Fns[fn].Params {
		e.vars[name] = args[i]
	}
	e.block(m.s.Fns[fn].Body)
	m.calls[e.number].v = e.v
	return e.v
}

func (e *env) did(d deed) {
	own := &e.m.calls[e.number]
	own.deeds = append(own.deeds, d)
}

// block runs statements, and tells what ends them: nothing, or one of the words for a jump.
func (e *env) block(body []api.Stmt) string {
	for _, s := range body {
		if end := e.stmt(s); end != "" {
			return end
		}
	}
	return ""
}

func (e *env) stmt(s api.Stmt) string {
	switch s.Kind {
	case api.SSpawn:
		args := e.all(s.E.Kids)
		fn := e.m.find(s.E.Name)
		e.did(deed{kind: "spawn", fn: fn})
		e.vars[s.Name] = e.m.call(fn, e.number, args)
	case api.SSync:
		e.did(deed{kind: "sync"})
	case api.SIf:
		if e.eval(s.E) == 0 {
			return e.block(s.Else)
		}
		return e.block(s.Body)
	case api.SWhile:
		for e.eval(s.E) != 0 {
			if end := e.block(s.Body); end == "break" {
				break
			} else if end == "return" {
				return end
			}
		}
	case api.SReturn:
		e.v = e.eval(s.E)
		return "return"
	case api.SBreak:
		return "break"
	case api.SContinue:
		return "continue"
	case api.SDo:
		e.eval(s.E)
	default:
		e.vars[s.Name] = e.eval(s.E)
	}
	return ""
}

func (e *env) all(list []api.Expr) []int64 {
	var values []int64
	for _, x := range list {
		values = append(values, e.eval(x))
	}
	return values
}

func (e *env) eval(x api.Expr) int64 {
	switch x.Kind {
	case api.ENumber:
		return x.K
	case api.EName:
		return e.vars[x.Name]
	case api.EAnd, api.EOr:
		first := e.eval(x.Kids[0]) != 0
		if first == (x.Kind == api.EAnd) {
			first = e.eval(x.Kids[1]) != 0
		}
		if first {
			return 1
		}
		return 0
	}
	kids := e.all(x.Kids)
	v := int64(0)
	switch x.Kind {
	case api.ENeg:
		v, _ = ops.Apply(api.Sub, 0, kids[0])
	case api.ENot:
		v, _ = ops.Apply(api.Eq, kids[0], 0)
	case api.EBinary:
		v, _ = ops.Apply(x.Op, kids[0], kids[1])
	case api.ECall:
		fn := e.m.find(x.Name)
		e.did(deed{kind: "call", fn: fn})
		v = e.m.call(fn, e.number, kids)
	case api.EReduce:
		v = e.ranges(deed{kind: "reduce", fn: e.m.find(x.Name), comb: e.m.find(x.Comb), n: kids[1], grain: kids[2]}, kids[0])
	case api.EEach:
		e.ranges(deed{kind: "each", fn: e.m.find(x.Name), comb: -1, n: kids[0], grain: kids[1]}, 0)
	}
	return v
}

// ranges works out a reduce, or an each, which has no comb.
func (e *env) ranges(d deed, unit int64) int64 {
	e.did(d)
	if d.n <= 0 {
		return unit
	}
	both := func(a, b int64) int64 {
		if d.comb < 0 {
			return 0
		}
		return e.m.call(d.comb, e.number, []int64{a, b})
	}
	var fold func(lo, hi int64) int64
	fold = func(lo, hi int64) int64 {
		e.m.calls[e.number].ranges++
		if hi-lo > max(d.grain, 1) {
			mid := lo + (hi-lo)/2
			left := fold(lo, mid)
			return both(left, fold(mid, hi))
		}
		v := unit
		for i := lo; i < hi; i++ {
			v = both(v, e.m.call(d.fn, e.number, []int64{i}))
		}
		return v
	}
	return fold(0, d.n)
}

// shape tells the levels of a reduce's or an each's ranges, and how many indices its greatest leaf has (13.6).
func (d deed) shape() (levels, indices int) {
	var look func(size int64, level int)
	look = func(size int64, level int) {
		if size > max(d.grain, 1) {
			look(size/2, level+1)
			look(size-size/2, level+1)
			return
		}
		levels, indices = max(levels, level), max(indices, int(size))
	}
	if d.n > 0 {
		look(d.n, 0)
	}
	return levels, indices
}
