package mean

import (
	"plunder/api"
	"plunder/ops"
)

// run is one run of a right source.
type run struct {
	fns   map[string]api.Fn // by their names
	fuel  int               // how many steps may still be made
	calls int
}

func newRun(s api.Source, fuel int) *run {
	fns := map[string]api.Fn{}
	for _, fn := range s.Fns {
		fns[fn.Name] = fn
	}
	return &run{fns: fns, fuel: fuel}
}

func (r *run) step() {
	if r.fuel == 0 {
		giveUp(api.Fault{Err: api.ErrFuel})
	}
	r.fuel--
}

// play plays a call of a function from its beginning to its return.
func (r *run) play(fn api.Fn, depth int, args []int64) int64 {
	if depth > api.MaxDepth {
		giveUp(api.Fault{Err: api.ErrDeep})
	}
	t := turn{run: r, depth: depth, vars: newVars[int64]()}
	for i, name := range fn.Params {
		t.vars.put(name, args[i])
	}
	t.block(fn.Body)
	return t.value
}

// turn is one call of a function, while it is played.
type turn struct {
	run   *run
	depth int
	vars  vars[int64]
	value int64 // what the function returned
}

// call calls a function from within this one.
func (t *turn) call(name string, args ...int64) int64 {
	t.run.calls++
	return t.run.play(t.run.fns[name], t.depth+1, args)
}

// How a statement ends.
const (
	goesOn = iota
	breaks
	continues
	returns
)

func (t *turn) block(body []api.Stmt) int {
	for i := range body {
		if end := t.stmt(&body[i]); end != goesOn {
			return end
		}
	}
	return goesOn
}

func (t *turn) stmt(s *api.Stmt) int {
	t.run.step()
	switch s.Kind {
	case api.SLet, api.SSet:
		t.vars.put(s.Name, t.eval(&s.E))
	case api.SSpawn:
		t.vars.spawn(s.Name, t.eval(&s.E))
	case api.SSync:
		t.vars.sync()
	case api.SIf:
		if t.eval(&s.E) != 0 {
			return t.block(s.Body)
		}
		return t.block(s.Else)
	case api.SWhile:
		return t.loop(s)
	case api.SDo:
		t.eval(&s.E)
	case api.SReturn:
		t.value = t.eval(&s.E)
		return returns
	case api.SBreak:
		return breaks
	case api.SContinue:
		return continues
	}
	return goesOn
}

func (t *turn) loop(s *api.Stmt) int {
	for t.eval(&s.E) != 0 {
		switch t.block(s.Body) {
		case breaks:
			return goesOn
		case returns:
			return returns
		}
	}
	return goesOn
}

func (t *turn) eval(e *api.Expr) int64 {
	t.run.step()
	switch e.Kind {
	case api.EName:
		return t.vars.values[e.Name]
	case api.ENeg:
		return -t.eval(&e.Kids[0])
	case api.ENot:
		return truth(t.eval(&e.Kids[0]) == 0)
	case api.EBinary:
		return t.binary(e)
	case api.EAnd:
		return truth(t.eval(&e.Kids[0]) != 0 && t.eval(&e.Kids[1]) != 0)
	case api.EOr:
		return truth(t.eval(&e.Kids[0]) != 0 || t.eval(&e.Kids[1]) != 0)
	case api.ECall:
		return t.call(e.Name, t.all(e.Kids)...)
	case api.EReduce:
		return t.reduce(e)
	case api.EEach:
		return t.each(e)
	}
	return e.K
}

func truth(holds bool) int64 {
	if holds {
		return 1
	}
	return 0
}

func (t *turn) binary(e *api.Expr) int64 {
	left := t.eval(&e.Kids[0])
	right := t.eval(&e.Kids[1])
	v, _ := ops.Apply(e.Op, left, right) // a right source has no other operations
	return v
}

// all evaluates expressions from the left.
func (t *turn) all(list []api.Expr) []int64 {
	values := make([]int64, len(list))
	for i := range list {
		values[i] = t.eval(&list[i])
	}
	return values
}
