package mean_test

import (
	"math"
	"math/rand"
	"testing"

	"plunder/api"
	"plunder/mean"
	"plunder/sources"
	"plunder/text"
)

// spoilt changes a field somewhere in a tree to anything.
func spoilt(r *rand.Rand, s api.Source) api.Source {
	s = sources.Copied(s)
	fn := &s.Fns[r.Intn(len(s.Fns))]
	stmts := numbered(fn.Body)
	if len(stmts) == 0 {
		return s
	}
	stmt := stmts[r.Intn(len(stmts))]
	var exprs []*api.Expr
	var look func(e *api.Expr)
	look = func(e *api.Expr) {
		exprs = append(exprs, e)
		for i := range e.Kids {
			look(&e.Kids[i])
		}
	}
	look(&stmt.E)
	e := exprs[r.Intn(len(exprs))]
	name := []string{"", "f", "main", "if", "a b", "0", "\xff"}[r.Intn(7)]
	number := []int{0, 1, 2, 5, -1, 99, math.MinInt, math.MaxInt}[r.Intn(8)]
	switch r.Intn(14) {
	case 0:
		fn.Name = name
	case 1:
		fn.Params = append(fn.Params, name)
	case 2:
		fn.Body = nil
	case 3:
		stmt.Kind = number
	case 4:
		stmt.Name = name
	case 5:
		stmt.Body = append(stmt.Body, api.Stmt{})
	case 6:
		stmt.Else = append(stmt.Else, api.Stmt{Kind: number})
	case 7:
		e.Kind = number
	case 8:
		e.Op = number
	case 9:
		e.K = int64(number)
	case 10:
		e.Name = name
	case 11:
		e.Comb = name
	case 12:
		e.Kids = append(e.Kids, api.Expr{})
	case 13:
		e.Kids = e.Kids[:len(e.Kids)/2]
	}
	return s
}

// R1, 15.2: whatever is handed in, no call panics, and what is no tree is refused as such.
func TestWild(t *testing.T) {
	r := rand.New(rand.NewSource(6))
	trees := 0
	for range 2000 {
		s := sources.Draw(r.Intn)
		for range 1 + r.Intn(2) {
			s = spoilt(r, s)
		}
		want := modelCheck(s)
		f := mean.Check(s)
		if f != want {
			t.Fatalf("15.2: Check(%v) = %v, want %v", s, f, want)
		}
		if _, err := text.Print(s); err != api.ErrTree {
			trees++
		}
		args := make([]int64, r.Intn(3))
		if m, err := mean.Run(s, args, 100); f.Err != api.OK && (m != (api.Meant{}) || err != f.Err) {
			t.Fatalf("15.8: Run(%v) = %v, %d, want %d", s, m, err, f.Err)
		}
	}
	if trees < 200 || trees > 1800 {
		t.Errorf("%d of them are trees", trees)
	}
}

// R1: trees in which very many are nested, or stand side by side.
func TestHuge(t *testing.T) {
	const many = 60000
	leaf := api.Expr{Kind: api.EName, Name: "n"}
	exprs := map[string]func(e api.Expr) api.Expr{
		"-": func(e api.Expr) api.Expr { return api.Expr{Kind: api.ENeg, Kids: []api.Expr{e}} },
		"left": func(e api.Expr) api.Expr {
			return api.Expr{Kind: api.EBinary, Kids: []api.Expr{e, leaf}}
		},
		"right": func(e api.Expr) api.Expr {
			return api.Expr{Kind: api.EAnd, Kids: []api.Expr{leaf, e}}
		},
		"call": func(e api.Expr) api.Expr { return api.Expr{Kind: api.ECall, Name: "main", Kids: []api.Expr{e}} },
		"each": func(e api.Expr) api.Expr {
			return api.Expr{Kind: api.EEach, Name: "main", Kids: []api.Expr{e, leaf}}
		},
	}
	main := func(body []api.Stmt) api.Source {
		return api.Source{Fns: []api.Fn{{Name: "main", Params: []string{"n"}, Body: body}}}
	}
	var all []api.Source
	for _, around := range exprs {
		e := leaf
		for range many {
			e = around(e)
		}
		all = append(all, main([]api.Stmt{{Kind: api.SReturn, E: e}}))
	}
	ifs, elses, whiles := []api.Stmt(nil), []api.Stmt(nil), []api.Stmt(nil)
	wide := api.Expr{Kind: api.ECall, Name: "main"}
	rows := []api.Stmt(nil)
	fns := []api.Fn(nil)
	for range many {
		ifs = []api.Stmt{{Kind: api.SIf, Body: ifs}}
		elses = []api.Stmt{{Kind: api.SIf, Else: elses}}
		whiles = []api.Stmt{{Kind: api.SWhile, Body: whiles}}
		wide.Kids = append(wide.Kids, leaf)
		rows = append(rows, api.Stmt{Kind: api.SSync})
		fns = append(fns, api.Fn{Name: "main"})
	}
	all = append(all, main(ifs), main(elses), main(whiles), main(rows), main([]api.Stmt{{Kind: api.SReturn, E: wide}}), api.Source{Fns: fns})
	for _, s := range all {
		if f := mean.Check(s); f != (api.Fault{Err: api.ErrSize}) {
			t.Errorf("15.3: Check = %v", f)
		}
		if m, err := mean.Run(s, nil, 0); m != (api.Meant{}) || err != api.ErrSize {
			t.Errorf("15.8: Run = %v, %d", m, err)
		}
	}
}

// R1: runs in which as much as can be has begun and not ended.
func TestDeepRuns(t *testing.T) {
	s := read(t, "fn main(n) { return n; } fn id(n) { return n; } fn pair(a, b) { return a; }")
	for _, inner := range []api.Expr{
		{Kind: api.ECall, Name: "main", Kids: []api.Expr{{K: 1}}},
		{Kind: api.EEach, Name: "main", Kids: []api.Expr{{K: most}, {K: 1}}},
		{Kind: api.EReduce, Name: "main", Comb: "pair", Kids: []api.Expr{{K: 1}, {K: most}, {K: 1}}},
	} {
		e := inner
		for range 50 {
			e = api.Expr{Kind: api.ECall, Name: "id", Kids: []api.Expr{e}}
		}
		s.Fns[0].Body = []api.Stmt{{Kind: api.SReturn, E: e}}
		fails(t, "15.8", s, []int64{1}, api.MaxFuel, api.ErrDeep)
	}
}
