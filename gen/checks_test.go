package gen_test

import (
	"slices"
	"testing"

	"plunder/api"
	"plunder/gen"
	"plunder/mean"
	"plunder/prog"
	"plunder/serial"
	"plunder/sources"
	"plunder/tasks"
	"plunder/text"
)

// read tells the tree of a text.
func read(t *testing.T, src string) api.Source {
	t.Helper()
	s, spot := text.Parse(src)
	if spot.Err != api.OK {
		t.Fatalf("%q: %v", src, spot)
	}
	return s
}

// shown is a source's text, or the tree where it has none.
func shown(s api.Source) any {
	if src, err := text.Print(s); err == api.OK {
		return src
	}
	return s
}

// compiled is the program of a right source, held against 16.1 and 16.2.
func compiled(t *testing.T, s api.Source) api.Program {
	t.Helper()
	c := sources.Copied(s)
	p, fault := gen.Compile(c)
	if fault != (api.Fault{}) {
		t.Fatalf("16.1: %v is refused: %v", shown(s), fault)
	}
	if !sources.Untouched(c, s) {
		t.Fatalf("R3: Compile has changed %v", shown(s))
	}
	if fault := prog.Check(p); fault != (api.Fault{}) {
		t.Fatalf("16.2: the program of %v is refused: %v", shown(s), fault)
	}
	if most := len(s.Fns) + api.MaxAdded*loops(s); len(p.Funcs) < len(s.Fns) || len(p.Funcs) > most {
		t.Fatalf("16.2: the program of %v has %d functions, and may have %d", shown(s), len(p.Funcs), most)
	}
	for f, fn := range s.Fns {
		if p.Funcs[f].Params != len(fn.Params) {
			t.Fatalf("16.2: %v: function %d has %d parameters", shown(s), f, p.Funcs[f].Params)
		}
	}
	for f := range p.Funcs {
		if slices.ContainsFunc(p.Funcs[f].Code, func(i api.Instr) bool { return i.Kind == api.IPed }) {
			t.Fatalf("16.2: %v: an IPed in function %d", shown(s), f)
		}
	}
	return p
}

// loops counts the unlike reduces and eaches of a source.
func loops(s api.Source) int {
	found := map[[2]string]int{}
	for _, fn := range s.Fns {
		parts(fn.Body, func(e api.Expr) {
			if e.Kind == api.EReduce || e.Kind == api.EEach {
				found[[2]string{e.Name, e.Comb}]++
			}
		})
	}
	return len(found)
}

// parts goes through all expressions of statements, and all that stands in them.
func parts(body []api.Stmt, see func(e api.Expr)) {
	var look func(e api.Expr)
	look = func(e api.Expr) {
		see(e)
		for _, kid := range e.Kids {
			look(kid)
		}
	}
	for _, s := range body {
		if s.Kind != api.SSync && s.Kind != api.SBreak && s.Kind != api.SContinue {
			look(s.E)
		}
		parts(s.Body, see)
		parts(s.Else, see)
	}
}

// means holds the program of a source against what the source means, as far as so much fuel leads, and tells how the meaning ends: 16.3 to 16.6, P8.
func means(t *testing.T, s api.Source, p api.Program, args []int64, fuel int) api.Errno {
	t.Helper()
	m, err := mean.Run(s, args, fuel)
	if err != api.OK {
		neverDone(t, s, p, args, fuel)
		return err
	}
	most := 40*m.Steps + 40
	v, err := serial.Eval(p, args, min(most, api.MaxFuel))
	if err == api.ErrDeep && 2*m.Steps+2 > api.MaxDepth {
		return err
	}
	if most > api.MaxFuel {
		t.Fatalf("16.3: %v with %v takes %d steps: no promise holds", shown(s), args, m.Steps)
	}
	if err != api.OK || v.V != m.V || v.Work > most || v.Tasks > 2*m.Steps+2 || v.Depth > 2*m.Steps+2 {
		t.Fatalf("16.3: %v with %v comes to %+v, %d, want %+v", shown(s), args, v, err, m)
	}
	if more, err := serial.Eval(p, args, api.MaxFuel); more != v || err != api.OK {
		t.Fatalf("16.3: %v with %v and all fuel comes to %+v, %d, want %+v", shown(s), args, more, err, v)
	}
	if back, err := mean.Run(s, args, min(100*v.Work+100, api.MaxFuel)); back != m || err != api.OK {
		t.Fatalf("16.4: %v with %v takes the work %d, and %d steps", shown(s), args, v.Work, m.Steps)
	}
	sameCalls(t, s, p, args, m, v)
	return api.OK
}

// neverDone looks at a run whose meaning comes to nothing with so much fuel: the program comes to no value with a hundredth of it. (16.4)
func neverDone(t *testing.T, s api.Source, p api.Program, args []int64, fuel int) {
	t.Helper()
	if fuel < 200 {
		return
	}
	if v, err := serial.Eval(p, args, (fuel-100)/100); err == api.OK {
		t.Fatalf("16.4: %v with %v comes to %+v, but means nothing with the fuel %d", shown(s), args, v, fuel)
	}
}

// sameCalls holds the tasks of a run against the calls that the meaning makes (16.5), and what they begin and wait for against the source's statements (16.6).
func sameCalls(t *testing.T, s api.Source, p api.Program, args []int64, m api.Meant, v api.Value) {
	t.Helper()
	calls := newModel(s, args).calls
	if calls[0].v != m.V || len(calls) != m.Calls+1 {
		t.Fatalf("%v with %v: the model tells %d behind %d calls, Run %+v", shown(s), args, calls[0].v, len(calls)-1, m)
	}
	nodes, err := serial.Tree(p, args, v.Work)
	if err != api.OK {
		t.Fatalf("16.5: %v with %v: %d", shown(s), args, err)
	}
	turns := watched(p, args, len(nodes))
	if turns[0].span != v.Span {
		t.Fatalf("%v with %v: the span is %d, Eval tells %d", shown(s), args, turns[0].span, v.Span)
	}
	of := make([]int, len(nodes)) // by task: the call that it is, or is made for
	begun := 0
	for n, node := range nodes {
		parent := -1
		if node.Parent >= 0 {
			parent = of[node.Parent]
		}
		if node.Func >= len(s.Fns) {
			of[n] = parent
			calls[parent].added++
			continue
		}
		if begun == len(calls) {
			t.Fatalf("16.5: %v with %v: more tasks than calls", shown(s), args)
		}
		c := &calls[begun]
		if node.Func != c.fn || node.V != c.v || parent != c.parent || !slices.Equal(turns[n].args, c.args) {
			t.Fatalf("16.5: %v with %v: task %d is %+v with %v, want %+v", shown(s), args, n, node, turns[n].args, c)
		}
		of[n] = begun
		c.own, c.span = node.Work, turns[n].span
		sameDeeds(t, s, *c, turns[n].deeds)
		begun++
	}
	if begun != len(calls) {
		t.Fatalf("16.5: %v with %v: %d tasks, want %d", shown(s), args, begun, len(calls))
	}
	for number, c := range calls {
		if most := 2*c.ranges + 2*ranging(c); c.added > most {
			t.Fatalf("16.5: %v with %v: call %d begins %d tasks of added functions, and may begin %d", shown(s), args, number, c.added, most)
		}
		sideBySide(t, s, calls, number)
	}
}

// sideBySide holds the span of a call that does one reduce or one each, and begins nothing else, against 16.6.
func sideBySide(t *testing.T, s api.Source, calls []call, number int) {
	t.Helper()
	c := calls[number]
	if len(c.deeds) != 1 || ranging(c) != 1 {
		return
	}
	d := c.deeds[0]
	body, comb := 0, 0
	for _, k := range calls {
		if k.parent == number && k.fn == d.fn {
			body = max(body, k.span)
		}
		if k.parent == number && k.fn == d.comb {
			comb = max(comb, k.span)
		}
	}
	levels, indices := d.shape()
	if most := c.own + 40 + levels*(40+comb) + indices*(40+body+comb); c.span > most {
		t.Fatalf("16.6: %v: a call of function %d with %v has the span %d, and may have %d", shown(s), c.fn, c.args, c.span, most)
	}
}

// ranging counts the reduces and eaches of a call.
func ranging(c call) int {
	n := 0
	for _, d := range c.deeds {
		if d.kind == "reduce" || d.kind == "each" {
			n++
		}
	}
	return n
}

// turn is what is seen of a task: its arguments, its span (6.6), and in the order of the run the functions that it spawned, and -1 for each sync.
type turn struct {
	args       []int64
	span, ends int
	deeds      []int
}

func watched(p api.Program, args []int64, n int) []turn {
	turns := make([]turn, n)
	tasks.Walk(p.Funcs, args, func(t *tasks.Turn, i api.Instr) {
		seen := &turns[t.Number]
		if t.Work == 0 {
			seen.args = slices.Clone(t.Regs[:p.Funcs[t.Func].Params])
		}
		switch i.Kind {
		case api.ISpawn:
			seen.deeds = append(seen.deeds, i.B)
		case api.ISync:
			seen.deeds = append(seen.deeds, -1)
			seen.span = max(seen.span, seen.ends)
		}
		seen.span++
		if i.Kind == api.IReturn && t.Parent != nil {
			above := &turns[t.Parent.Number]
			above.ends = max(above.ends, above.span+seen.span)
		}
	})
	return turns
}

// sameDeeds wants a spawn for each spawn statement, with no sync behind it but those of later deeds; a sync for each sync statement; and a spawn and a sync for all else that is called.
func sameDeeds(t *testing.T, s api.Source, c call, got []int) {
	t.Helper()
	rest := got
	next := func(holds func(deed int) bool) bool {
		if len(rest) == 0 || !holds(rest[0]) {
			return false
		}
		rest = rest[1:]
		return true
	}
	sync := func(deed int) bool { return deed == -1 }
	added := func(deed int) bool { return deed >= len(s.Fns) }
	for _, d := range c.deeds {
		spawned := func(deed int) bool { return deed == d.fn }
		ok := false
		switch d.kind {
		case "spawn":
			ok = next(spawned)
		case "call":
			ok = next(spawned) && next(sync)
		case "sync":
			ok = next(sync)
		default:
			ok = next(added) && next(sync)
		}
		if !ok {
			t.Fatalf("16.6: %v: a call of function %d does %v, want %v", shown(s), c.fn, got, c.deeds)
		}
	}
	if len(rest) > 0 {
		t.Fatalf("16.6: %v: a call of function %d does %v, want no more than %v", shown(s), c.fn, got, c.deeds)
	}
}
