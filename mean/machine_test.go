package mean_test

import (
	"slices"

	"plunder/api"
	"plunder/ops"
)

// machine is a model of Run: what is still to be done lies on a stack, and so do the values in hand. Nothing calls itself.
type machine struct {
	s      api.Source
	fuel   int
	todo   []func()
	values []int64
	turns  []*turn
	err    api.Errno

	steps, calls, syncs int
	wrong               string // 15.15: what must not happen
}

// turn is a call of a function that goes on.
type turn struct {
	fn      string
	values  map[string]int64
	pending map[string]bool
	whiles  []func() // the whiles around, from the condition on
	heights []int    // how much was to be done when they began
	height  int      // how much was to be done when it was called
}

// modelRun runs a right source.
func modelRun(s api.Source, args []int64, fuel int) (*machine, api.Meant, api.Errno) {
	m := &machine{s: s, fuel: fuel}
	m.begin("main", args)
	for len(m.todo) > 0 && m.err == api.OK {
		next := m.todo[len(m.todo)-1]
		m.todo = m.todo[:len(m.todo)-1]
		next()
	}
	if m.err != api.OK {
		return m, api.Meant{}, m.err
	}
	if len(m.values) != 1 || len(m.turns) != 0 {
		m.wrong = "something is left"
	}
	return m, api.Meant{V: m.values[0], Steps: m.steps, Calls: m.calls}, api.OK
}

// then lets things be done, the first one first.
func (m *machine) then(things ...func()) {
	slices.Reverse(things)
	m.todo = append(m.todo, things...)
}

func (m *machine) put(v int64) { m.values = append(m.values, v) }

func (m *machine) putTruth(holds bool) {
	if holds {
		m.put(1)
	} else {
		m.put(0)
	}
}

// take takes the last values from the stack.
func (m *machine) take(n int) []int64 {
	at := len(m.values) - n
	list := slices.Clone(m.values[at:])
	m.values = m.values[:at]
	return list
}

func (m *machine) top() *turn { return m.turns[len(m.turns)-1] }

// step makes a step, and tells whether there was fuel for it.
func (m *machine) step() bool {
	if m.steps == m.fuel {
		m.err = api.ErrFuel
		return false
	}
	m.steps++
	return true
}

func (m *machine) begin(name string, args []int64) {
	if len(m.turns) == 4096 {
		m.err = api.ErrDeep
		return
	}
	f := slices.IndexFunc(m.s.Fns, func(fn api.Fn) bool { return fn.Name == name })
	t := &turn{fn: name, values: map[string]int64{}, pending: map[string]bool{}, height: len(m.todo)}
	for i, p := range m.s.Fns[f].Params {
		t.values[p] = args[i]
	}
	m.turns = append(m.turns, t)
	m.then(func() { m.wrong = "a function ends without a return" })
	m.block(m.s.Fns[f].Body)
}

func (m *machine) block(body []api.Stmt) {
	var things []func()
	for _, s := range body {
		things = append(things, func() {
			if m.step() {
				m.stmt(s)
			}
		})
	}
	m.then(things...)
}

func (m *machine) stmt(s api.Stmt) {
	t := m.top()
	e := func() { m.expr(s.E) }
	switch s.Kind {
	case api.SLet, api.SSet:
		m.then(e, func() { t.values[s.Name] = m.take(1)[0] })
	case api.SSpawn:
		m.then(e, func() { t.values[s.Name], t.pending[s.Name] = m.take(1)[0], true })
	case api.SSync:
		m.syncs++
		t.pending = map[string]bool{}
	case api.SDo:
		m.then(e, func() { m.take(1) })
	case api.SReturn:
		m.then(e, func() {
			m.todo = m.todo[:t.height]
			m.turns = m.turns[:len(m.turns)-1]
		})
	case api.SIf:
		m.then(e, func() {
			if m.take(1)[0] != 0 {
				m.block(s.Body)
			} else {
				m.block(s.Else)
			}
		})
	case api.SWhile:
		m.while(t, s)
	case api.SBreak:
		m.leaveWhile(t)
	case api.SContinue:
		again := t.whiles[len(t.whiles)-1]
		m.todo = m.todo[:t.heights[len(t.heights)-1]]
		m.then(again)
	}
}

func (m *machine) while(t *turn, s api.Stmt) {
	var again func()
	again = func() {
		m.then(func() { m.expr(s.E) }, func() {
			if m.take(1)[0] == 0 {
				m.leaveWhile(t)
				return
			}
			m.then(again)
			m.block(s.Body)
		})
	}
	t.whiles, t.heights = append(t.whiles, again), append(t.heights, len(m.todo))
	m.then(again)
}

// leaveWhile goes on behind the innermost while.
func (m *machine) leaveWhile(t *turn) {
	last := len(t.heights) - 1
	m.todo = m.todo[:t.heights[last]]
	t.whiles, t.heights = t.whiles[:last], t.heights[:last]
}

// exprs evaluates expressions, and then does something with their values.
func (m *machine) exprs(list []api.Expr, then func(v []int64)) {
	var things []func()
	for _, e := range list {
		things = append(things, func() { m.expr(e) })
	}
	m.then(append(things, func() { then(m.take(len(list))) })...)
}

func (m *machine) expr(e api.Expr) {
	if !m.step() {
		return
	}
	switch e.Kind {
	case api.ENumber:
		m.put(e.K)
	case api.EName:
		v, has := m.top().values[e.Name]
		if !has || m.top().pending[e.Name] {
			m.wrong = "the variable " + e.Name + " is read"
		}
		m.put(v)
	case api.EAnd, api.EOr:
		m.exprs(e.Kids[:1], func(v []int64) {
			if (v[0] != 0) == (e.Kind == api.EOr) {
				m.putTruth(v[0] != 0)
				return
			}
			m.exprs(e.Kids[1:], func(v []int64) { m.putTruth(v[0] != 0) })
		})
	default:
		m.exprs(e.Kids, func(v []int64) { m.worked(e, v) })
	}
}

// worked does what an expression does when its kids have been evaluated.
func (m *machine) worked(e api.Expr, v []int64) {
	switch e.Kind {
	case api.ENeg:
		m.put(0 - v[0])
	case api.ENot:
		m.putTruth(v[0] == 0)
	case api.EBinary:
		w, _ := ops.Apply(e.Op, v[0], v[1])
		m.put(w)
	case api.ECall:
		m.calls++
		m.begin(e.Name, v)
	case api.EReduce:
		if v[1] <= 0 {
			m.put(v[0])
			return
		}
		m.reduce(e, v[0], 0, v[1], v[2])
	case api.EEach:
		m.then(func() { m.put(0) })
		if v[0] > 0 {
			m.each(e, 0, v[0], v[1])
		}
	}
}

// called is a call that a reduce or an each makes, with the last values on the stack.
func (m *machine) called(name string, args int) func() {
	return func() {
		if m.step() {
			m.calls++
			m.begin(name, m.take(args))
		}
	}
}

func (m *machine) reduce(e api.Expr, unit, lo, hi, grain int64) {
	if !m.step() {
		return
	}
	if grain < 1 {
		grain = 1
	}
	if half := (hi - lo) / 2; hi-lo > grain {
		m.then(func() { m.reduce(e, unit, lo, lo+half, grain) }, func() { m.reduce(e, unit, lo+half, hi, grain) }, m.called(e.Comb, 2))
		return
	}
	m.put(unit)
	var next func(i int64)
	next = func(i int64) {
		if i < hi {
			m.put(i)
			m.then(m.called(e.Name, 1), m.called(e.Comb, 2), func() { next(i + 1) })
		}
	}
	next(lo)
}

func (m *machine) each(e api.Expr, lo, hi, grain int64) {
	if !m.step() {
		return
	}
	if grain < 1 {
		grain = 1
	}
	if half := (hi - lo) / 2; hi-lo > grain {
		m.then(func() { m.each(e, lo, lo+half, grain) }, func() { m.each(e, lo+half, hi, grain) })
		return
	}
	var next func(i int64)
	next = func(i int64) {
		if i < hi {
			m.put(i)
			m.then(m.called(e.Name, 1), func() { m.take(1); next(i + 1) })
		}
	}
	next(lo)
}
