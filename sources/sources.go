// Package sources: sources to try the layers with: as many right ones as are drawn, others that were spoilt, and copies. Only tests use it; what is drawn comes from them, as this program has no random source.
package sources

import (
	"slices"

	"plunder/api"
)

// Drawer tells a number from 0 to n - 1.
type Drawer func(n int) int

// of draws one of several.
func of[T any](draw Drawer, list ...T) T { return list[draw(len(list))] }

// number draws a number, most often a small one.
func (d Drawer) number() int64 {
	if d(4) > 0 {
		return int64(d(7)) - 2
	}
	v := int64(0)
	for range 8 {
		v = v<<8 | int64(d(256))
	}
	return v >> d(64)
}

// What stands in the room behind the ends of a copy's lists.
const room = "the room behind"

// Copied is a source in memory of its own, with something in the room behind the ends of its lists.
func Copied(s api.Source) api.Source {
	fns := withRoom(s.Fns, api.Fn{Name: room})
	for i, fn := range fns {
		fns[i].Params = withRoom(fn.Params, room)
		fns[i].Body = copiedBlock(fn.Body)
	}
	return api.Source{Fns: fns}
}

func withRoom[T any](list []T, behind T) []T {
	return append(slices.Clone(list), behind)[:len(list)]
}

func copiedBlock(body []api.Stmt) []api.Stmt {
	body = withRoom(body, api.Stmt{Name: room})
	for i, s := range body {
		body[i].E = copiedExpr(s.E)
		body[i].Body = copiedBlock(s.Body)
		body[i].Else = copiedBlock(s.Else)
	}
	return body
}

func copiedExpr(e api.Expr) api.Expr {
	e.Kids = withRoom(e.Kids, api.Expr{Name: room})
	for i, kid := range e.Kids {
		e.Kids[i] = copiedExpr(kid)
	}
	return e
}

// Untouched tells whether a copy that Copied made of a source is as it was, in the room behind the ends of its lists too.
func Untouched(c, s api.Source) bool {
	return behind(c.Fns).Name == room && slices.EqualFunc(c.Fns, s.Fns, func(f, g api.Fn) bool {
		return f.Name == g.Name && slices.Equal(f.Params, g.Params) && behind(f.Params) == room && sameBlock(f.Body, g.Body)
	})
}

// behind is what stands in the room behind a list.
func behind[T any](list []T) T { return list[:len(list)+1][len(list)] }

func sameBlock(a, b []api.Stmt) bool {
	return behind(a).Name == room && slices.EqualFunc(a, b, func(s, t api.Stmt) bool {
		return s.Kind == t.Kind && s.Name == t.Name && sameExpr(s.E, t.E) && sameBlock(s.Body, t.Body) && sameBlock(s.Else, t.Else)
	})
}

func sameExpr(a, b api.Expr) bool {
	same := a.Kind == b.Kind && a.Op == b.Op && a.K == b.K && a.Name == b.Name && a.Comb == b.Comb
	return same && behind(a.Kids).Name == room && slices.EqualFunc(a.Kids, b.Kids, sameExpr)
}
