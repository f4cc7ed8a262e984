package sources

import "plunder/api"

// Short ways to write trees.

func number(k int64) api.Expr { return api.Expr{Kind: api.ENumber, K: k} }

func name(x string) api.Expr { return api.Expr{Kind: api.EName, Name: x} }

func with(kind int, kids ...api.Expr) api.Expr { return api.Expr{Kind: kind, Kids: kids} }

func binary(op int, left, right api.Expr) api.Expr {
	return api.Expr{Kind: api.EBinary, Op: op, Kids: []api.Expr{left, right}}
}

func set(x string, e api.Expr) api.Stmt { return api.Stmt{Kind: api.SSet, Name: x, E: e} }

func give(e api.Expr) api.Stmt { return api.Stmt{Kind: api.SReturn, E: e} }

// size counts the statements and expressions of a block.
func size(body []api.Stmt) int {
	n := 0
	for _, s := range body {
		n += 1 + size(s.Body) + size(s.Else)
		if s.Kind != api.SSync && s.Kind != api.SBreak && s.Kind != api.SContinue {
			n += parts(s.E)
		}
	}
	return n
}

// parts counts an expression and all that stands in it.
func parts(e api.Expr) int {
	n := 1
	for _, kid := range e.Kids {
		n += parts(kid)
	}
	return n
}
