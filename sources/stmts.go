package sources

import (
	"slices"

	"plunder/api"
)

// piece draws a statement, with those ahead of it and behind it that make it right.
func (m *maker) piece(room int) []api.Stmt {
	switch m.draw(16) {
	case 0, 1, 2:
		return m.let()
	case 3:
		return m.set()
	case 4, 5, 6, 7:
		return m.spawn()
	case 8:
		return m.sync()
	case 9, 10:
		if room > 0 {
			return m.branches(room)
		}
	case 11, 12:
		if room > 0 {
			return m.loop(room)
		}
	case 13, 14:
		if len(m.whiles) > 0 || room < 3 && m.draw(2) == 0 { // at a function's end there is one anyway
			return m.leave()
		}
	}
	return []api.Stmt{{Kind: api.SDo, E: m.expr(2)}}
}

func (m *maker) let() []api.Stmt {
	for _, x := range shuffled(m.draw, varNames) {
		if len(m.names) < api.MaxVars && !slices.Contains(m.names, x) {
			s := api.Stmt{Kind: api.SLet, Name: x, E: m.expr(2)}
			m.names = append(m.names, x)
			m.here.set = append(m.here.set, x)
			return []api.Stmt{s}
		}
	}
	return nil
}

// target draws a variable that is to be set or spawned. What a function counts down is seldom one.
func (m *maker) target() (string, bool) {
	counter, counts := m.counter()
	for _, x := range shuffled(m.draw, m.names) {
		if !slices.Contains(m.here.pending, x) && (!counts || x != counter || m.draw(16) == 0) {
			return x, true
		}
	}
	return "", false
}

func (m *maker) set() []api.Stmt {
	x, ok := m.target()
	if !ok {
		return nil
	}
	s := set(x, m.expr(3))
	m.here.set = added(m.here.set, x)
	return []api.Stmt{s}
}

// added is a list with a name in it, once.
func added(list []string, x string) []string {
	if slices.Contains(list, x) {
		return list
	}
	return append(list, x)
}

func without(list []string, x string) []string {
	return slices.DeleteFunc(list, func(y string) bool { return x == y })
}

func (m *maker) spawn() []api.Stmt {
	x, ok := m.target()
	if !ok || len(added(slices.Clone(m.spawned), x)) > api.MaxPend {
		return nil
	}
	fn, ok := m.callee(-1)
	if !ok {
		return nil
	}
	return []api.Stmt{m.spawnOf(x, fn)}
}

// spawnOf draws a spawn of a function, for a variable that may be spawned.
func (m *maker) spawnOf(x string, fn api.Fn) api.Stmt {
	s := api.Stmt{Kind: api.SSpawn, Name: x, E: m.call(fn, 1)}
	m.spawned = added(m.spawned, x)
	m.here.set = without(m.here.set, x)
	m.here.pending = append(m.here.pending, x)
	return s
}

func (m *maker) sync() []api.Stmt {
	m.here.set = append(m.here.set, m.here.pending...)
	m.here.pending = nil
	return []api.Stmt{{Kind: api.SSync}}
}

// settle draws what lets the same variables be pending as at a point.
func (m *maker) settle(p point) []api.Stmt {
	if samePending(m.here, p) {
		return nil
	}
	body := m.sync()
	for _, x := range p.pending {
		fn, ok := m.callee(-1)
		if !ok {
			fn = m.fns[0]
		}
		body = append(body, m.spawnOf(x, fn))
	}
	return body
}

func samePending(p, q point) bool {
	for _, x := range p.pending {
		if !slices.Contains(q.pending, x) {
			return false
		}
	}
	return len(p.pending) == len(q.pending)
}

func (m *maker) branches(room int) []api.Stmt {
	s := api.Stmt{Kind: api.SIf, E: m.expr(2)}
	ahead := m.here.copied()
	s.Body = m.block(3, room-1)
	body := m.here
	m.here = ahead
	if m.draw(2) == 0 {
		s.Else = m.block(3, room-1)
	}
	switch {
	case !body.comes:
		return []api.Stmt{s}
	case !m.here.comes:
		m.here = body
		return []api.Stmt{s}
	}
	if !samePending(body, m.here) {
		s.Else = append(s.Else, m.sync()...)
		other := m.here
		m.here = body
		s.Body = append(s.Body, m.sync()...)
		body, m.here = m.here, other
	}
	m.here.set = slices.DeleteFunc(m.here.set, func(x string) bool { return !slices.Contains(body.set, x) })
	return []api.Stmt{s}
}

func (m *maker) loop(room int) []api.Stmt {
	var all []api.Stmt
	if m.draw(2) == 0 {
		all = m.settle(point{})
	}
	s := api.Stmt{Kind: api.SWhile, E: m.expr(1)}
	ahead := m.here.copied()
	if x, ok := m.counter(); ok && m.draw(8) > 0 {
		s.E = binary(api.Lt, number(0), name(x))
		s.Body = []api.Stmt{set(x, binary(api.Sub, name(x), number(1)))}
	}
	m.whiles = append(m.whiles, ahead)
	s.Body = append(s.Body, m.block(3, room-1)...)
	if m.here.comes {
		s.Body = append(s.Body, m.settle(ahead)...)
	}
	m.whiles = m.whiles[:len(m.whiles)-1]
	m.here = ahead
	return append(all, s)
}

// leave draws a return, or a break or a continue in a while.
func (m *maker) leave() []api.Stmt {
	kind, to := api.SReturn, point{}
	if len(m.whiles) > 0 && m.draw(3) > 0 {
		kind, to = of(m.draw, api.SBreak, api.SContinue), m.whiles[len(m.whiles)-1]
	}
	s := api.Stmt{Kind: kind}
	all := m.settle(to)
	if kind == api.SReturn {
		s.E = m.expr(3)
	}
	m.here = point{}
	return append(all, s)
}
