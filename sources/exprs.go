package sources

import (
	"slices"

	"plunder/api"
)

// leaf draws an expression without kids.
func (m *maker) leaf() api.Expr {
	if len(m.here.set) == 0 || m.draw(3) == 0 {
		return number(m.draw.number())
	}
	return name(of(m.draw, m.here.set...))
}

// expr draws an expression in which at most three are nested, of at most three kids each: so its need is at most 8.
func (m *maker) expr(room int) api.Expr {
	if room <= 0 {
		return m.leaf()
	}
	switch m.draw(14) {
	case 0:
		return with(api.ENeg, m.expr(room-1))
	case 1:
		return with(api.ENot, m.expr(room-1))
	case 2, 3, 4, 5:
		return binary(m.draw(api.NumOps), m.expr(room-1), m.expr(room-1))
	case 6:
		return with(of(m.draw, api.EAnd, api.EOr), m.expr(room-1), m.expr(room-1))
	case 7, 8:
		if fn, ok := m.callee(-1); ok {
			return m.call(fn, room)
		}
	case 9:
		if e, ok := m.reduce(room); ok {
			return e
		}
	case 10:
		if e, ok := m.each(room); ok {
			return e
		}
	}
	return m.leaf()
}

// callee draws a function with so many parameters, or with any number of them, if it is to have -1. Who counts nothing down calls only those behind it, so as not to call itself for ever.
func (m *maker) callee(params int) (api.Fn, bool) {
	if m.plain {
		return api.Fn{}, false
	}
	_, counts := m.counter()
	var fit []api.Fn
	for f, fn := range m.fns {
		ends := f > m.f || counts && len(fn.Params) > 0
		if ends && (params < 0 || params == len(fn.Params)) {
			fit = append(fit, fn)
		}
	}
	if len(fit) == 0 {
		return api.Fn{}, false
	}
	return of(m.draw, fit...), true
}

// count draws what is to be counted down.
func (m *maker) count() api.Expr {
	if x, ok := m.counter(); ok && m.draw(16) > 0 {
		return name(x)
	}
	return number(int64(m.draw(4)))
}

// call draws a call of a function.
func (m *maker) call(fn api.Fn, room int) api.Expr {
	e := api.Expr{Kind: api.ECall, Name: fn.Name}
	for i := range fn.Params {
		if i == 0 {
			e.Kids = append(e.Kids, m.count())
		} else {
			e.Kids = append(e.Kids, m.expr(room-1))
		}
	}
	return e
}

func (m *maker) reduce(room int) (api.Expr, bool) {
	body, ok := m.callee(1)
	comb, both := m.callee(2)
	e := api.Expr{Kind: api.EReduce, Name: body.Name, Comb: comb.Name}
	if !ok || !both || !m.mayLoop(e) {
		return api.Expr{}, false
	}
	e.Kids = []api.Expr{m.expr(room - 1), m.count(), number(int64(m.draw(5)))}
	return e, true
}

func (m *maker) each(room int) (api.Expr, bool) {
	body, ok := m.callee(1)
	e := api.Expr{Kind: api.EEach, Name: body.Name}
	if !ok || !m.mayLoop(e) {
		return api.Expr{}, false
	}
	e.Kids = []api.Expr{m.count(), m.expr(room - 1)}
	return e, true
}

// mayLoop tells whether there may be a reduce or an each with such names, and notes it if there may.
func (m *maker) mayLoop(e api.Expr) bool {
	known := slices.ContainsFunc(m.loops, func(l api.Expr) bool {
		return l.Kind == e.Kind && l.Name == e.Name && l.Comb == e.Comb
	})
	if !known && len(m.loops) == api.MaxLoops {
		return false
	}
	if !known {
		m.loops = append(m.loops, e)
	}
	return true
}
