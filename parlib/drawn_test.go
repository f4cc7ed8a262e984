package parlib_test

import (
	"math/rand"
	"testing"

	"plunder/api"
	"plunder/asm"
	"plunder/laws"
	"plunder/machine"
	"plunder/parlib"
	"plunder/samples"
	"plunder/script"
	"plunder/serial"
	"plunder/spy"
)

// drawnAsk draws a base and a fold of it; many of the calls come to a value.
func drawnAsk(r *rand.Rand) ask {
	a := ask{base: samples.Draw(r.Intn, false)}
	for range r.Intn(3) {
		a.base.Funcs = append(a.base.Funcs, two(r.Intn(api.NumOps)))
	}
	a.body, a.comb = drawnFunc(r, &a.base, 1), drawnFunc(r, &a.base, 2)
	a.unit = int64(r.Intn(7) - 3)
	a.n = int64(r.Intn(24) - 2)
	a.grain = int64(r.Intn(8) - 1)
	if r.Intn(10) == 0 {
		a.grain = int64(r.Uint64())
	}
	if r.Intn(10) == 0 {
		a.unit = int64(r.Uint64())
	}
	return a
}

// drawnFunc draws a function of the base with so many parameters; one is added where there is none.
func drawnFunc(r *rand.Rand, base *api.Program, params int) int {
	var fit []int
	for f := range base.Funcs {
		if base.Funcs[f].Params == params {
			fit = append(fit, f)
		}
	}
	if len(fit) == 0 {
		base.Funcs = append(base.Funcs, asm.Func(params, 3, 0, asm.Const(2, 3), asm.Arith(0, 0, r.Intn(api.NumOps), 2), asm.Arith(0, 0, api.Xor, params-1), asm.Return(0)))
		return len(base.Funcs) - 1
	}
	return fit[r.Intn(len(fit))]
}

// 13.3 to 13.7: drawn folds come to what the model says, with fuel that does and that does not.
func TestDrawn(t *testing.T) {
	r := rand.New(rand.NewSource(13))
	errs := map[api.Errno]int{}
	for range 3000 {
		a := drawnAsk(r)
		fuel := []int{r.Intn(30), r.Intn(300), 2000, 20000}[r.Intn(4)]
		m, want := newModel(a, fuel)
		same := samples.Copied(a.base)
		v, err := parlib.Fold(same, a.body, a.comb, a.unit, a.n, a.grain, fuel)
		if v != want || err != m.err {
			t.Fatalf("13.7: %+v with the fuel %d: Fold = %d, %d, want %d, %d", a, fuel, v, err, want, m.err)
		}
		if !samples.Untouched(same, a.base) {
			t.Fatalf("R3: %v was changed to %v", a.base, same)
		}
		if a.n > 0 {
			errs[err]++
		}
		checkMade(t, a, fuel)
	}
	for err, fewest := range map[api.Errno]int{api.OK: 700, api.ErrFuel: 500, api.ErrDeep: 50} {
		if errs[err] < fewest {
			t.Errorf("only %d of the drawn folds come to %d", errs[err], err)
		}
	}
}

// checkMade holds 13.3 to 13.6 against both programs, and what follows from 13.7. The calls have so much fuel.
func checkMade(t *testing.T, a ask, fuel int) {
	t.Helper()
	p, err := parlib.Reduce(a.base, a.body, a.comb, a.unit)
	q, err2 := parlib.For(a.base, a.body)
	if err != api.OK || err2 != api.OK {
		t.Fatalf("13.1, 13.2: %+v is refused: %d, %d", a, err, err2)
	}
	m, want := newModel(a, fuel)
	checkRun(t, a, p, m, want, fuel, true)
	// without the calls of comb: those of body alone come to a value where this one does
	b := a
	b.base.Funcs = append(b.base.Funcs[:len(b.base.Funcs):len(b.base.Funcs)], asm.Func(2, 2, 0, asm.Return(0)))
	b.comb = len(b.base.Funcs) - 1
	m, _ = newModel(b, fuel)
	delete(m.works, b.comb)
	delete(m.spans, b.comb)
	checkRun(t, a, q, m, 0, fuel, false)
}

// checkRun holds the serial run of a program against the calls of which it has to be made.
func checkRun(t *testing.T, a ask, p api.Program, m *model, want int64, fuel int, folds bool) {
	t.Helper()
	by := checkForm(t, a.base, p)
	if m.err != api.OK {
		if v, err := serial.Eval(p, a.args(), fuel); err == api.OK && folds {
			t.Fatalf("13.7: %+v with the fuel %d comes to %v, Fold to %d", a, fuel, v, m.err)
		}
		return
	}
	enough := m.work() + 40*(len(a.pieces())+int(max(a.n, 0))) + 40
	nodes, err := serial.Tree(p, a.args(), enough)
	if err == api.ErrDeep && m.depth > api.MaxDepth-140 {
		return
	}
	if err != api.OK || nodes[0].V != want {
		t.Fatalf("13.4: %+v with the fuel %d comes to %d, want %d", a, enough, err, want)
	}
	work := m.work() + checkTasks(t, a, by, nodes, folds)
	v, err := serial.Eval(p, a.args(), work)
	if err != api.OK || v.V != want || v.Work != work {
		t.Fatalf("13.4: %+v comes to %+v, %d, want %d, with the work %d", a, v, err, want, work)
	}
	checkSpan(t, a, v.Span, m.spans[m.body], m.spans[m.comb])
}

// 13.7: just the sum of the calls' Works suffices.
func TestFoldFuel(t *testing.T) {
	r := rand.New(rand.NewSource(7))
	tried := 0
	for tried < 500 {
		a := drawnAsk(r)
		m, want := newModel(a, 5000)
		if m.err != api.OK || a.n <= 0 {
			continue
		}
		tried++
		for _, fuel := range []int{m.work(), m.work() + 1, m.work() + r.Intn(9000), api.MaxFuel} {
			if v, err := parlib.Fold(a.base, a.body, a.comb, a.unit, a.n, a.grain, fuel); v != want || err != api.OK {
				t.Fatalf("13.7: %+v with the fuel %d: %d, %d, want %d", a, fuel, v, err, want)
			}
		}
		for _, fuel := range []int{0, r.Intn(m.work()), m.work() - 1} {
			if v, err := parlib.Fold(a.base, a.body, a.comb, a.unit, a.n, a.grain, fuel); v != 0 || err != api.ErrFuel {
				t.Fatalf("13.7: %+v with the fuel %d: %d, %d, want ErrFuel below %d", a, fuel, v, err, m.work())
			}
		}
	}
}

// P11, P1: in every run that is done the value is the fold by halves, and the body has run once for each index.
func TestRuns(t *testing.T) {
	r := rand.New(rand.NewSource(11))
	kinds := map[int]int{}
	for kinds[api.OutDone] < 300 {
		a := drawnAsk(r)
		m, want := newModel(a, 600)
		if m.err != api.OK {
			continue
		}
		p, _ := parlib.Reduce(a.base, a.body, a.comb, a.unit)
		if r.Intn(2) == 0 {
			p, _ = parlib.For(a.base, a.body)
			want = 0
		}
		kinds[checkJob(t, r, a, p, want)]++
		if t.Failed() {
			return
		}
	}
	if kinds[api.OutEnded] < 20 {
		t.Errorf("of the runs %v did not come to their end", kinds)
	}
}

// checkJob runs a program by drawn picks, and tells the kind of the outcome. That a done run has each task of the tree just once is what laws.Check looks at; checkTasks has looked at the tree.
func checkJob(t *testing.T, r *rand.Rand, a ask, p api.Program, want int64) int {
	t.Helper()
	v, err := serial.Eval(p, a.args(), 5000)
	if err != api.OK {
		return api.OutMalformed
	}
	j := api.Job{P: p, Args: a.args(), Workers: 1 + r.Intn(5), Lim: api.Limits{Frames: v.Tasks, First: 1 + r.Intn(2), Most: v.Tasks + 1}}
	j.S = api.Script{Picks: spy.Picks(r.Intn, 1+r.Intn(8*v.Work*j.Workers), j.Workers), Draws: []int{r.Int(), r.Int(), r.Int(), r.Int()}}
	if r.Intn(2) == 0 {
		j.S.Picks, _ = script.Turns(j.Workers, 40*v.Work)
	}
	o, events := machine.Trace(j.P, j.Args, j.Workers, j.Lim, j.S)
	laws.Check(t, j, events)
	if o.Kind == api.OutDone && (o.Value != want || o.Frames != v.Tasks) || o.Kind == api.OutFull {
		t.Errorf("P11: %+v by %d workers: %+v, want %d", a, j.Workers, o, want)
	}
	return o.Kind
}
