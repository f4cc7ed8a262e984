package sources

import (
	"slices"

	"plunder/api"
)

// Spoil is a copy of a source with one small change, drawn without regard to what is right. It is still a tree that some text has, its length and depth aside.
func Spoil(draw Drawer, s api.Source) api.Source {
	s = Copied(s)
	switch draw(10) {
	case 0:
		spoilFns(draw, s)
	case 1, 2, 3:
		spoilExpr(draw, s)
	case 4, 5:
		spoilStmt(draw, s)
	default:
		spoilList(draw, s)
	}
	return s
}

// anyName draws a name that stands somewhere in a source, most often a variable's, or one that nothing has.
func anyName(draw Drawer, s api.Source) string {
	names := []string{"nothing", of(draw, s.Fns...).Name}
	for _, fn := range s.Fns {
		names = append(names, fn.Params...)
	}
	for _, list := range lists(s) {
		for _, stmt := range *list {
			if stmt.Kind == api.SLet {
				names = append(names, stmt.Name)
			}
		}
	}
	return of(draw, names...)
}

func spoilFns(draw Drawer, s api.Source) {
	fn, other := draw(len(s.Fns)), draw(len(s.Fns))
	params := s.Fns[fn].Params
	switch draw(5) {
	case 0:
		s.Fns[fn].Name = anyName(draw, s)
	case 1:
		s.Fns[fn], s.Fns[other] = s.Fns[other], s.Fns[fn]
	case 2:
		s.Fns[fn].Params = append(slices.Clone(params), anyName(draw, s))
	default:
		if len(params) > 0 {
			params[draw(len(params))] = anyName(draw, s)
		}
	}
}

// lists tells where all lists of statements stand.
func lists(s api.Source) []*[]api.Stmt {
	var all []*[]api.Stmt
	var look func(list *[]api.Stmt)
	look = func(list *[]api.Stmt) {
		all = append(all, list)
		for i, stmt := range *list {
			if stmt.Kind == api.SIf || stmt.Kind == api.SWhile {
				look(&(*list)[i].Body)
			}
			if stmt.Kind == api.SIf {
				look(&(*list)[i].Else)
			}
		}
	}
	for f := range s.Fns {
		look(&s.Fns[f].Body)
	}
	return all
}

// stmtOf draws a statement of a list, if there is one.
func stmtOf(draw Drawer, list []api.Stmt) *api.Stmt {
	if len(list) == 0 {
		return &api.Stmt{}
	}
	return &list[draw(len(list))]
}

// spoilList takes a statement out of a list, or puts one in: one of the source's own, or one that stands for itself.
func spoilList(draw Drawer, s api.Source) {
	all := lists(s)
	list := of(draw, all...)
	at := draw(len(*list) + 1)
	if draw(3) == 0 {
		*list = slices.Delete(slices.Clone(*list), at, min(at+1, len(*list)))
		return
	}
	put := *stmtOf(draw, *of(draw, all...))
	if put.Kind == api.SLet || draw(2) == 0 {
		put = someStmt(draw, s)
	}
	*list = slices.Insert(slices.Clone(*list), at, copiedBlock([]api.Stmt{put})...) // else a list could come to stand in itself
}

func someStmt(draw Drawer, s api.Source) api.Stmt {
	fn := of(draw, s.Fns...)
	call := api.Expr{Kind: api.ECall, Name: fn.Name}
	for range fn.Params {
		call.Kids = append(call.Kids, number(1))
	}
	return of(draw,
		api.Stmt{Kind: api.SLet, Name: anyName(draw, s), E: number(3)},
		set(anyName(draw, s), number(4)),
		api.Stmt{Kind: api.SSpawn, Name: anyName(draw, s), E: call},
		api.Stmt{Kind: api.SSync},
		give(name(anyName(draw, s))),
		api.Stmt{Kind: api.SBreak},
		api.Stmt{Kind: api.SContinue},
		api.Stmt{Kind: api.SDo, E: name(anyName(draw, s))},
		api.Stmt{Kind: api.SWhile, E: name(anyName(draw, s))},
		api.Stmt{Kind: api.SIf, E: number(1), Body: []api.Stmt{{Kind: api.SSync}}})
}

// spoilStmt changes a statement's name, its kind or its blocks.
func spoilStmt(draw Drawer, s api.Source) {
	stmt := stmtOf(draw, *of(draw, lists(s)...))
	switch stmt.Kind {
	case api.SLet, api.SSet, api.SSpawn:
		if draw(2) == 0 {
			stmt.Name = anyName(draw, s)
		} else {
			stmt.Kind = of(draw, api.SLet, api.SSet)
		}
		if stmt.E.Kind == api.ECall && draw(2) == 0 {
			stmt.Kind = api.SSpawn
		}
	case api.SSync, api.SBreak, api.SContinue:
		stmt.Kind = of(draw, api.SSync, api.SBreak, api.SContinue)
	case api.SDo, api.SReturn:
		stmt.Kind = of(draw, api.SDo, api.SReturn)
	case api.SIf:
		stmt.Body, stmt.Else = stmt.Else, stmt.Body
	case api.SWhile:
		stmt.Kind = api.SIf
	}
}

// spoilExpr changes a part of an expression.
func spoilExpr(draw Drawer, s api.Source) {
	var all []*api.Expr
	var look func(e *api.Expr)
	look = func(e *api.Expr) {
		if e.Kind != api.ENumber {
			all = append(all, e)
		}
		for i := range e.Kids {
			look(&e.Kids[i])
		}
	}
	for _, list := range lists(s) {
		for i := range *list {
			look(&(*list)[i].E)
		}
	}
	if len(all) == 0 {
		return
	}
	e := of(draw, all...)
	switch {
	case e.Kind == api.EReduce && draw(2) == 0:
		e.Comb = anyName(draw, s)
	case e.Name == "":
		e.Kids[draw(len(e.Kids))] = name(anyName(draw, s))
	case e.Kind == api.ECall && draw(3) == 0:
		e.Kids = append(slices.Clone(e.Kids), name(anyName(draw, s)))
	default:
		e.Name = anyName(draw, s)
	}
}
