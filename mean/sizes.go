package mean

import "plunder/api"

// checkSizes holds a source against 15.3.
func checkSizes(s api.Source) {
	if len(s.Fns) > api.MaxFns || loops(s) > api.MaxLoops {
		giveUp(api.Fault{Err: api.ErrSize})
	}
	for f, fn := range s.Fns {
		if tooGreat(fn) {
			giveUp(api.Fault{Err: api.ErrSize, Func: f})
		}
	}
}

// loops counts the different reduces and eaches of a source.
func loops(s api.Source) int {
	type names struct{ body, comb string } // an each has no comb, so it is unlike every reduce
	found := map[names]mark{}
	for _, fn := range s.Fns {
		statements(fn.Body, func(s api.Stmt) {
			parts(s.E, func(e api.Expr) {
				if e.Kind == api.EReduce || e.Kind == api.EEach {
					found[names{e.Name, e.Comb}] = mark{}
				}
			})
		})
	}
	return len(found)
}

// tooGreat tells whether a function goes beyond a limit of its own.
func tooGreat(fn api.Fn) bool {
	variables, spawned := distinct(fn.Params), distinct(nil)
	size, most := 0, 0
	statements(fn.Body, func(s api.Stmt) {
		size++
		switch s.Kind {
		case api.SLet:
			variables[s.Name] = mark{}
		case api.SSpawn:
			spawned[s.Name] = mark{}
		case api.SSync, api.SBreak, api.SContinue:
			return // they have no expression, though the field is there
		}
		parts(s.E, func(api.Expr) { size++ })
		most = max(most, need(s.E))
	})
	return len(variables) > api.MaxVars || len(spawned) > api.MaxPend || size > api.MaxSize || most > api.MaxTemps
}

// need tells how many values an expression has in hand at once. That of a part is never above that of the whole.
func need(e api.Expr) int {
	switch e.Kind {
	case api.ENeg, api.ENot:
		return 1 + need(e.Kids[0])
	case api.EAnd, api.EOr:
		return max(need(e.Kids[0]), need(e.Kids[1]))
	}
	most := leastNeed(e.Kind)
	for i, kid := range e.Kids {
		most = max(most, i+need(kid))
	}
	return most
}

// leastNeed tells the need of an expression of that kind whatever its kids are.
func leastNeed(kind int) int {
	switch kind {
	case api.EReduce:
		return 4
	case api.EEach:
		return 3
	}
	return 1
}

// statements goes through statements in their numbering.
func statements(body []api.Stmt, see func(api.Stmt)) {
	for _, s := range body {
		see(s)
		statements(s.Body, see)
		statements(s.Else, see)
	}
}

// parts goes through an expression and all that stands in it.
func parts(e api.Expr, see func(api.Expr)) {
	see(e)
	for _, kid := range e.Kids {
		parts(kid, see)
	}
}
