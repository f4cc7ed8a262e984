package text

import "plunder/api"

// anyKids are as many as one likes.
const anyKids = -1

// exprShape says which fields the expressions of a kind have, and how many kids. All other fields are zero.
type exprShape struct {
	k, op, name, comb bool
	kids              int
}

var exprShapes = [...]exprShape{
	api.ENumber: {k: true},
	api.EName:   {name: true},
	api.ENeg:    {kids: 1},
	api.ENot:    {kids: 1},
	api.EBinary: {op: true, kids: 2},
	api.ECall:   {name: true, kids: anyKids},
	api.EReduce: {name: true, comb: true, kids: 3},
	api.EEach:   {name: true, kids: 2},
	api.EAnd:    {kids: 2},
	api.EOr:     {kids: 2},
}

// stmtShape says which fields the statements of a kind have. All others are zero.
type stmtShape struct{ name, expr, body, other bool }

var stmtShapes = [...]stmtShape{
	api.SLet:      {name: true, expr: true},
	api.SSet:      {name: true, expr: true},
	api.SSpawn:    {name: true, expr: true},
	api.SSync:     {},
	api.SIf:       {expr: true, body: true, other: true},
	api.SWhile:    {expr: true, body: true},
	api.SDo:       {expr: true},
	api.SReturn:   {expr: true},
	api.SBreak:    {},
	api.SContinue: {},
}

// isSource tells whether a source is a tree that a text may have, its length and depth aside.
func isSource(s api.Source) bool { return len(s.Fns) > 0 && all(s.Fns, isFn) }

func isFn(f api.Fn) bool { return isName(f.Name) && all(f.Params, isName) && all(f.Body, isStmt) }

func isStmt(s api.Stmt) bool {
	if s.Kind < 0 || s.Kind >= len(stmtShapes) {
		return false
	}
	shape := stmtShapes[s.Kind]
	if !nameFits(s.Name, shape.name) || !shape.body && len(s.Body) > 0 || !shape.other && len(s.Else) > 0 {
		return false
	}
	if s.Kind == api.SSpawn && s.E.Kind != api.ECall {
		return false
	}
	if !shape.expr {
		return isZero(s.E)
	}
	return isExpr(s.E) && all(s.Body, isStmt) && all(s.Else, isStmt)
}

func isExpr(e api.Expr) bool {
	if e.Kind < 0 || e.Kind >= len(exprShapes) {
		return false
	}
	shape := exprShapes[e.Kind]
	if shape.kids != anyKids && len(e.Kids) != shape.kids {
		return false
	}
	if e.Op < 0 || e.Op >= api.NumOps || !shape.op && e.Op != 0 || !shape.k && e.K != 0 {
		return false
	}
	return nameFits(e.Name, shape.name) && nameFits(e.Comb, shape.comb) && all(e.Kids, isExpr)
}

// nameFits tells whether a field is a name where there is to be one, and empty elsewhere.
func nameFits(field string, wanted bool) bool {
	if wanted {
		return isName(field)
	}
	return field == ""
}

// isZero tells whether an expression is the empty one, which stands where a statement has none.
func isZero(e api.Expr) bool {
	return e.Kind == 0 && e.Op == 0 && e.K == 0 && e.Name == "" && e.Comb == "" && len(e.Kids) == 0
}

func all[T any](list []T, holds func(T) bool) bool {
	for _, item := range list {
		if !holds(item) {
			return false
		}
	}
	return true
}
