package gen_test

import (
	"math/rand"
	"testing"

	"plunder/api"
	"plunder/gen"
	"plunder/laws"
	"plunder/machine"
	"plunder/mean"
	"plunder/script"
	"plunder/serial"
	"plunder/sources"
	"plunder/spy"
)

// 16.1 to 16.6, P8: sources that are drawn.
func TestDrawn(t *testing.T) {
	t.Parallel()
	r := rand.New(rand.NewSource(16))
	ends := map[api.Errno]int{}
	for range 4000 {
		s := sources.Draw(r.Intn)
		p := compiled(t, s)
		for range 3 {
			ends[means(t, s, p, sources.Args(r.Intn, s), []int{r.Intn(300), 3000, 20000}[r.Intn(3)])]++
		}
	}
	if ends[api.OK] < 4000 || ends[api.ErrFuel] < 500 {
		t.Errorf("the drawn runs end so: %v", ends)
	}
}

// 16.1: sources that were spoilt are refused where Check refuses them; those that are right nevertheless are compiled.
func TestSpoilt(t *testing.T) {
	t.Parallel()
	r := rand.New(rand.NewSource(161))
	errs := map[api.Errno]int{}
	for range 1500 {
		s := sources.Draw(r.Intn)
		for range 6 {
			s = sources.Spoil(r.Intn, s)
			fault := mean.Check(s)
			errs[fault.Err]++
			if fault.Err == api.OK {
				means(t, s, compiled(t, s), sources.Args(r.Intn, s), 500)
			} else {
				refused(t, s, fault)
			}
		}
	}
	for _, err := range []api.Errno{api.OK, api.ErrMain, api.ErrTwice, api.ErrUnknown, api.ErrCount2, api.ErrUnset, api.ErrPending, api.ErrLate, api.ErrNoEnd, api.ErrSize, api.ErrFlow} {
		if errs[err] < 20 {
			t.Errorf("only %d sources with %d: %v", errs[err], err, errs)
		}
	}
}

// refused holds the refusal of a source against the fault that Check tells.
func refused(t *testing.T, s api.Source, fault api.Fault) {
	t.Helper()
	c := sources.Copied(s)
	p, got := gen.Compile(c)
	if want := (api.Fault{Err: api.ErrSource, Func: fault.Func, At: fault.At}); got != want || len(p.Funcs) != 0 {
		t.Fatalf("16.1: Compile(%v) = %v, %v, want %v", shown(s), p, got, want)
	}
	if !sources.Untouched(c, s) {
		t.Fatalf("R3: Compile has changed %v", shown(s))
	}
}

// all are statements of main(a) of which rows are made: with and without a call that waits while something is pending.
func all() []api.Stmt {
	name := func(x string) api.Expr { return api.Expr{Kind: api.EName, Name: x} }
	child := api.Expr{Kind: api.ECall, Name: "main", Kids: []api.Expr{{K: 0}}}
	return []api.Stmt{
		{Kind: api.SLet, Name: "x", E: api.Expr{K: 7}}, {Kind: api.SSet, Name: "x", E: name("a")}, {Kind: api.SSpawn, Name: "x", E: child}, {Kind: api.SSpawn, Name: "a", E: child}, {Kind: api.SSync},
		{Kind: api.SDo, E: child}, {Kind: api.SSet, Name: "a", E: api.Expr{Kind: api.ENeg, Kids: []api.Expr{name("x")}}}, {Kind: api.SReturn, E: name("a")}, {Kind: api.SBreak}, {Kind: api.SContinue},
	}
}

// 16.1 to 16.6: all functions of few statements, with some behind them or not.
func TestAllShort(t *testing.T) {
	t.Parallel()
	let := api.Stmt{Kind: api.SLet, Name: "x", E: api.Expr{K: 5}}
	sync := api.Stmt{Kind: api.SSync}
	ret := api.Stmt{Kind: api.SReturn, E: api.Expr{Kind: api.EName, Name: "x"}}
	right, ends := 0, 0
	for n := range 5 {
		for _, row := range sources.Rows(n, api.Expr{Kind: api.EName, Name: "a"}, all()...) {
			for _, row := range [][]api.Stmt{row, append([]api.Stmt{let}, append(row, ret)...), append([]api.Stmt{let}, append(row, sync, ret)...)} {
				s := api.Source{Fns: []api.Fn{{Name: "main", Params: []string{"a"}, Body: row}}}
				fault := mean.Check(s)
				if fault.Err != api.OK {
					if n < 4 {
						refused(t, s, fault)
					}
					continue
				}
				right++
				p := compiled(t, s)
				for a := range int64(2) {
					if means(t, s, p, []int64{a}, 60) == api.OK {
						ends++
					}
				}
			}
		}
	}
	if right < 10000 || ends < 5000 {
		t.Errorf("only %d functions are right, and %d runs of them end", right, ends)
	}
}

// P8, P1, P2: in every run that is done, by whatever workers and picks, the value is what the source means.
func TestRuns(t *testing.T) {
	t.Parallel()
	r := rand.New(rand.NewSource(8))
	kinds := map[int]int{}
	for kinds[api.OutDone] < 400 && !t.Failed() {
		s := sources.Draw(r.Intn)
		args := sources.Args(r.Intn, s)
		m, err := mean.Run(s, args, 400)
		if err != api.OK {
			continue
		}
		p := compiled(t, s)
		v, _ := serial.Eval(p, args, api.MaxFuel)
		j := api.Job{P: p, Args: args, Workers: 1 + r.Intn(5), Lim: api.Limits{Frames: v.Tasks, First: 1 + r.Intn(2), Most: v.Tasks + 1}}
		j.S = api.Script{Picks: spy.Picks(r.Intn, 1+r.Intn(8*v.Work*j.Workers), j.Workers), Draws: []int{r.Int(), r.Int(), r.Int(), r.Int()}}
		if r.Intn(2) == 0 {
			j.S.Picks, _ = script.Turns(j.Workers, 40*v.Work)
		}
		o, events := machine.Trace(j.P, j.Args, j.Workers, j.Lim, j.S)
		laws.Check(t, j, events)
		if o.Kind == api.OutDone && o.Value != m.V || o.Kind == api.OutFull || o.Kind == api.OutMalformed {
			t.Errorf("P8: %v with %v by %d workers: %+v, want %d", shown(s), args, j.Workers, o, m.V)
		}
		kinds[o.Kind]++
	}
	if kinds[api.OutEnded] < 20 {
		t.Errorf("of the runs %v did not come to their end", kinds)
	}
}
