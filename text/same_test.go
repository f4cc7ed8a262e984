package text_test

import (
	"slices"

	"plunder/api"
)

// Trees are the same if only their lists are: an empty one may be nil or not.

func sameSource(a, b api.Source) bool {
	return slices.EqualFunc(a.Fns, b.Fns, func(f, g api.Fn) bool {
		return f.Name == g.Name && slices.Equal(f.Params, g.Params) && sameBlock(f.Body, g.Body)
	})
}

func sameBlock(a, b []api.Stmt) bool { return slices.EqualFunc(a, b, sameStmt) }

func sameStmt(a, b api.Stmt) bool {
	return a.Kind == b.Kind && a.Name == b.Name && sameExpr(a.E, b.E) && sameBlock(a.Body, b.Body) && sameBlock(a.Else, b.Else)
}

func sameExpr(a, b api.Expr) bool {
	return a.Kind == b.Kind && a.Op == b.Op && a.K == b.K && a.Name == b.Name && a.Comb == b.Comb && slices.EqualFunc(a.Kids, b.Kids, sameExpr)
}

// Copies of trees, with no memory in common.

func copySource(s api.Source) api.Source {
	fns := slices.Clone(s.Fns)
	for i := range fns {
		fns[i].Params = slices.Clone(fns[i].Params)
		fns[i].Body = copyBlock(fns[i].Body)
	}
	return api.Source{Fns: fns}
}

func copyBlock(body []api.Stmt) []api.Stmt {
	body = slices.Clone(body)
	for i := range body {
		body[i].E = copyExpr(body[i].E)
		body[i].Body = copyBlock(body[i].Body)
		body[i].Else = copyBlock(body[i].Else)
	}
	return body
}

func copyExpr(e api.Expr) api.Expr {
	e.Kids = slices.Clone(e.Kids)
	for i := range e.Kids {
		e.Kids[i] = copyExpr(e.Kids[i])
	}
	return e
}

// Short ways to write trees.

func num(k int64) api.Expr { return api.Expr{Kind: api.ENumber, K: k} }

func name(s string) api.Expr { return api.Expr{Kind: api.EName, Name: s} }

func of(kind int, kids ...api.Expr) api.Expr { return api.Expr{Kind: kind, Kids: kids} }

func bin(op int, a, b api.Expr) api.Expr {
	return api.Expr{Kind: api.EBinary, Op: op, Kids: []api.Expr{a, b}}
}

func call(f string, kids ...api.Expr) api.Expr {
	return api.Expr{Kind: api.ECall, Name: f, Kids: kids}
}

func function(body ...api.Stmt) api.Source {
	return api.Source{Fns: []api.Fn{{Name: "f", Body: body}}}
}

func returns(e api.Expr) api.Source { return function(api.Stmt{Kind: api.SReturn, E: e}) }
