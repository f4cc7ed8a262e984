package parlib_test

import (
	"slices"
	"testing"

	"plunder/api"
	"plunder/asm"
	"plunder/prog"
	"plunder/samples"
	"plunder/serial"
)

// The functions of the chapter's base.
const (
	id = iota
	sub
	add
)

func two(op int) api.Func {
	return asm.Func(2, 2, 0, asm.Arith(0, 0, op, 1), asm.Return(0))
}

// theBase is the base of the chapter's examples, with some functions behind it.
func theBase(more ...api.Func) api.Program {
	funcs := []api.Func{asm.Func(1, 1, 0, asm.Return(0)), two(api.Sub), two(api.Add)}
	return asm.Program(append(funcs, more...)...)
}

// ask is a fold that is asked for.
type ask struct {
	base           api.Program
	body, comb     int
	unit, n, grain int64
}

func (a ask) args() []int64 { return []int64{a.n, a.grain} }

// piece is a range.
type piece struct {
	lo, hi int64
	level  int
	leaf   bool
}

// pieces tells all ranges, each ahead of its halves.
func (a ask) pieces() []piece {
	if a.n <= 0 {
		return nil
	}
	all := []piece{{lo: 0, hi: a.n}}
	for k := 0; k < len(all); k++ {
		p := all[k]
		if p.hi-p.lo <= max(1, a.grain) {
			all[k].leaf = true
			continue
		}
		mid := p.lo + (p.hi-p.lo)/2
		all = append(all, piece{lo: p.lo, hi: mid, level: p.level + 1}, piece{lo: mid, hi: p.hi, level: p.level + 1})
	}
	return all
}

// model works a fold out by the chapter's words, and keeps what the calls came to.
type model struct {
	ask
	entered map[int]api.Program // the base with another entry
	fuel    int
	err     api.Errno
	works   map[int]int // by function, of all its calls
	spans   map[int]int // by function, the greatest of its calls
	depth   int         // the greatest of all calls
}

// swapped is the base with a function as the entry, and the old entry in its place.
func swapped(base api.Program, f int) api.Program {
	p := samples.Copied(base)
	p.Funcs[0], p.Funcs[f] = p.Funcs[f], p.Funcs[0]
	for _, g := range p.Funcs {
		for k, i := range g.Code {
			switch {
			case i.Kind == api.ISpawn && i.B == 0:
				g.Code[k].B = f
			case i.Kind == api.ISpawn && i.B == f:
				g.Code[k].B = 0
			}
		}
	}
	return p
}

// newModel works a fold out with so much fuel; what it comes to is 0 where there is an error.
func newModel(a ask, fuel int) (*model, int64) {
	m := &model{ask: a, fuel: fuel, works: map[int]int{}, spans: map[int]int{}}
	m.entered = map[int]api.Program{a.body: swapped(a.base, a.body), a.comb: swapped(a.base, a.comb)}
	v := a.unit
	if a.n > 0 {
		v = m.tree(0, a.n)
	}
	if m.err != api.OK {
		v = 0
	}
	return m, v
}

// tree is T of the chapter.
func (m *model) tree(lo, hi int64) int64 {
	if hi-lo > max(1, m.grain) {
		mid := lo + (hi-lo)/2
		left := m.tree(lo, mid)
		right := m.tree(mid, hi)
		return m.call(m.comb, left, right)
	}
	v := m.unit
	for i := lo; i < hi && m.err == api.OK; i++ {
		v = m.call(m.comb, v, m.call(m.body, i))
	}
	return v
}

func (m *model) call(f int, args ...int64) int64 {
	if m.err != api.OK {
		return 0
	}
	v, err := serial.Eval(m.entered[f], args, m.fuel)
	m.err = err
	m.fuel -= v.Work
	m.works[f] += v.Work
	m.spans[f] = max(m.spans[f], v.Span)
	m.depth = max(m.depth, v.Depth)
	return v.V
}

// work is the fuel that all calls took.
func (m *model) work() int { return m.works[m.body] + m.works[m.comb] }

// checkForm: 13.3, and how many functions were added.
func checkForm(t *testing.T, base, p api.Program) int {
	t.Helper()
	by := len(p.Funcs) - len(base.Funcs)
	if fault := prog.Check(p); fault.Err != api.OK || by < 1 || by > 4 || p.Funcs[0].Params != 2 {
		t.Fatalf("13.3: of %v came %v, with the fault %v", base, p, fault)
	}
	for k, f := range base.Funcs {
		got := p.Funcs[by+k]
		code := slices.Clone(f.Code)
		for at := range code {
			if code[at].Kind == api.ISpawn {
				code[at].B += by
			}
		}
		if got.Params != f.Params || got.Regs != f.Regs || got.Slots != f.Slots || !slices.Equal(got.Code, code) {
			t.Fatalf("13.3: of the function %v of the base came %v, with %d functions ahead", f, got, by)
		}
	}
	for _, f := range p.Funcs {
		if slices.ContainsFunc(f.Code, func(i api.Instr) bool { return i.Kind == api.IPed }) {
			t.Fatalf("13.3: an IPed in %v", p)
		}
	}
	return by
}

// checkTasks: 13.5 and the instructions of 13.6. It tells how many instructions the added functions executed.
func checkTasks(t *testing.T, a ask, by int, nodes []api.Node, folds bool) int {
	t.Helper()
	pieces := a.pieces()
	var indices []int64
	combs, tasks, work := 0, 0, 0
	for _, x := range nodes {
		switch called := x.Parent >= 0 && nodes[x.Parent].Func < by; {
		case x.Func < by:
			tasks++
			work += x.Work
			if x.Parent >= 0 && !called {
				t.Fatalf("13.3: %+v: a task of the base spawned an added one", a)
			}
		case called && x.Func == by+a.body:
			indices = append(indices, x.Arg)
		case called && folds && x.Func == by+a.comb:
			combs++
		case called:
			t.Fatalf("13.5: %+v: a task of an added function spawned function %d", a, x.Func)
		}
	}
	n := int(max(a.n, 0))
	if len(indices) != n || !rises(indices) {
		t.Fatalf("13.5: %+v: the body is called with %v", a, indices)
	}
	halved := 0
	for _, p := range pieces {
		if !p.leaf {
			halved++
		}
	}
	if folds && combs != n+halved {
		t.Fatalf("13.5: %+v: %d calls of comb, want %d and %d", a, combs, n, halved)
	}
	if tasks > 2*len(pieces)+2 {
		t.Fatalf("13.5: %+v: %d added tasks for %d ranges", a, tasks, len(pieces))
	}
	if work > 40*(len(pieces)+n)+40 {
		t.Fatalf("13.6: %+v: %d added instructions for %d ranges", a, work, len(pieces))
	}
	return work
}

// rises tells whether a list is 0, 1, 2, ..
func rises(list []int64) bool {
	for k, i := range list {
		if i != int64(k) {
			return false
		}
	}
	return true
}

// checkSpan: the span of 13.6, with the greatest spans of a call of body and of comb.
func checkSpan(t *testing.T, a ask, span, b, c int) {
	t.Helper()
	levels, indices := 0, 0
	for _, p := range a.pieces() {
		if p.leaf {
			levels = max(levels, p.level)
			indices = max(indices, int(p.hi-p.lo))
		}
	}
	if bound := 40 + levels*(40+c) + indices*(40+b+c); span > bound {
		t.Fatalf("13.6: %+v: the span %d is above %d", a, span, bound)
	}
}
