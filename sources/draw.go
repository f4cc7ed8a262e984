package sources

import (
	"slices"

	"plunder/api"
)

// Names of functions and of variables. Some are in both lists, since the two are apart.
var (
	fnNames  = []string{"f", "g", "h", "add", "sub", "id", "fib", "a", "n", "x", "_", "Main"}
	varNames = []string{"n", "a", "b", "x", "y", "z1", "f", "g", "main", "_", "Sum", "a_name_that_has_24_bytes"}
)

// maker draws the functions of a source, one after the other.
type maker struct {
	draw  Drawer
	fns   []api.Fn   // those behind the one that is being made have no body yet
	loops []api.Expr // the unlike reduces and eaches so far
	scope
}

// scope is what is known where the next statement of a function is to be drawn.
type scope struct {
	f       int      // the function's number
	plain   bool     // whether the function calls nothing
	names   []string // the variables that are known
	spawned []string // those that a spawn names
	here    point
	whiles  []point // the points ahead of the whiles around
}

// point tells which variables are set and which are pending at a point that may be come to.
type point struct {
	comes        bool
	set, pending []string
}

func (p point) copied() point {
	return point{comes: p.comes, set: slices.Clone(p.set), pending: slices.Clone(p.pending)}
}

// Draw draws a right source, many of whose runs end.
func Draw(draw Drawer) api.Source {
	m := maker{draw: draw}
	count := 1 + draw(6)
	if draw(20) == 0 {
		count = api.MaxFns
	}
	names := shuffled(draw, fnNames)
	names[0] = "main"
	for f := range count {
		m.fns = append(m.fns, api.Fn{Name: names[f], Params: shuffled(draw, varNames)[:of(draw, 0, 1, 1, 1, 2, 2, 2, 3)]})
	}
	for f := range m.fns {
		m.fns[f].Body = m.body(f)
	}
	return api.Source{Fns: m.fns}
}

// Args draws arguments for a source's main; the first one is small, as functions count it down.
func Args(draw Drawer, s api.Source) []int64 {
	args := make([]int64, len(s.Fns[0].Params))
	for i := range args {
		args[i] = draw.number()
	}
	if len(args) > 0 {
		args[0] = int64(draw(6))
	}
	return args
}

func shuffled(draw Drawer, names []string) []string {
	names = slices.Clone(names)
	for i := range names {
		k := i + draw(len(names)-i)
		names[i], names[k] = names[k], names[i]
	}
	return names
}

// body draws a function's body that is not too great. With luck the first one will do.
func (m *maker) body(f int) []api.Stmt {
	loops := len(m.loops)
	for wish := 6; wish > 0; wish-- {
		m.scope = scope{f: f, plain: f > 0 && m.draw(4) == 0, names: slices.Clone(m.fns[f].Params)}
		m.here = point{comes: true, set: slices.Clone(m.fns[f].Params)}
		body := append(m.beginning(), m.block(wish, 3)...)
		if m.here.comes {
			body = append(body, m.leave()...)
		}
		if size(body) <= api.MaxSize {
			return body
		}
		m.loops = m.loops[:loops]
	}
	return []api.Stmt{give(number(m.draw.number()))}
}

// counter is the variable that a function counts down, if it has one.
func (m *maker) counter() (string, bool) {
	params := m.fns[m.f].Params
	if m.plain || len(params) == 0 || !slices.Contains(m.here.set, params[0]) {
		return "", false
	}
	return params[0], true
}

// beginning lets a function that may call itself end at 0, and come nearer to that.
func (m *maker) beginning() []api.Stmt {
	x, ok := m.counter()
	if !ok {
		return nil
	}
	stop := api.Stmt{Kind: api.SIf, E: binary(api.Lt, name(x), number(1)), Body: []api.Stmt{give(m.leaf())}}
	return []api.Stmt{stop, set(x, binary(api.Sub, name(x), number(1)))}
}

// block draws a block of a few statements in which so many are nested.
func (m *maker) block(wish, room int) []api.Stmt {
	var body []api.Stmt
	for range m.draw(wish + 1) {
		if !m.here.comes {
			break
		}
		body = append(body, m.piece(room)...)
	}
	return body
}
