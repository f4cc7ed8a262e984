package sources_test

import (
	"math/rand"
	"reflect"
	"testing"

	"plunder/api"
	"plunder/mean"
	"plunder/sources"
	"plunder/text"
)

// count counts the kinds of statements and expressions of blocks.
func count(body []api.Stmt, stmts, exprs map[int]int) {
	var look func(e api.Expr)
	look = func(e api.Expr) {
		exprs[e.Kind]++
		for _, kid := range e.Kids {
			look(kid)
		}
	}
	for _, s := range body {
		stmts[s.Kind]++
		look(s.E)
		count(s.Body, stmts, exprs)
		count(s.Else, stmts, exprs)
	}
}

// All sources that are drawn are right, and have a text; all kinds of statements and expressions are drawn, and many runs end.
func TestRight(t *testing.T) {
	r := rand.New(rand.NewSource(1))
	stmts, exprs, ends, full := map[int]int{}, map[int]int{}, 0, 0
	for range 2000 {
		s := sources.Draw(r.Intn)
		if f := mean.Check(s); f != (api.Fault{}) {
			t.Fatalf("%v: %v", s, f)
		}
		if _, err := text.Print(s); err != api.OK && err != api.ErrLong {
			t.Fatalf("%v: %d", s, err)
		}
		for _, fn := range s.Fns {
			count(fn.Body, stmts, exprs)
		}
		switch m, err := mean.Run(s, sources.Args(r.Intn, s), 20000); {
		case err == api.OK && m.Calls > 0:
			ends++
		case err == api.ErrFuel:
			full++
		}
	}
	for kind := api.SLet; kind <= api.SContinue; kind++ {
		if stmts[kind] < 150 {
			t.Errorf("too few statements of kind %d: %d", kind, stmts[kind])
		}
	}
	for kind := api.ENumber; kind <= api.EOr; kind++ {
		if exprs[kind] < 500 {
			t.Errorf("too few expressions of kind %d: %d", kind, exprs[kind])
		}
	}
	if ends < 800 || full < 100 {
		t.Errorf("%d runs with calls end, %d go on", ends, full)
	}
}

// A small change makes another tree, most often, and does not touch the one that it was made of.
func TestSpoil(t *testing.T) {
	r := rand.New(rand.NewSource(2))
	changed, wrong := 0, 0
	for range 1000 {
		s := sources.Draw(r.Intn)
		c := sources.Copied(s)
		spoilt := sources.Spoil(r.Intn, c)
		if !sources.Untouched(c, s) {
			t.Fatalf("%v has been changed", s)
		}
		switch f := mean.Check(spoilt); f.Err {
		case api.OK:
		case api.ErrTree:
			t.Fatalf("%v is no tree", spoilt)
		default:
			wrong++
		}
		if !sources.Untouched(sources.Copied(spoilt), s) {
			changed++
		}
	}
	if changed < 600 || wrong < 400 || wrong > 950 {
		t.Errorf("%d were changed, %d are wrong", changed, wrong)
	}
}

// A copy has no memory in common with what it is a copy of, and shows every change of it.
func TestCopied(t *testing.T) {
	s, spot := text.Parse("fn main(a) { if a { do f(1, reduce(g, f, 1, 2, 3)); } else { a = 2; } return 3; } fn f(x, y) { return 1; } fn g(x) { return 1; }")
	if spot.Err != api.OK {
		t.Fatal(spot)
	}
	for i, change := range []func(c api.Source){
		func(c api.Source) { c.Fns[0].Name = "" },
		func(c api.Source) { c.Fns[1].Params[1] = "z" },
		func(c api.Source) { c.Fns[0].Body[0].Kind++ },
		func(c api.Source) { c.Fns[0].Body[0].E.Name = "b" },
		func(c api.Source) { c.Fns[0].Body[0].Else[0].Name = "b" },
		func(c api.Source) { c.Fns[0].Body[0].Body[0].E.Op++ },
		func(c api.Source) { c.Fns[0].Body[0].Body[0].E.Kids[1].Comb = "b" },
		func(c api.Source) { c.Fns[0].Body[0].Body[0].E.Kids[1].Kids[2].K++ },
		func(c api.Source) { _ = append(c.Fns, api.Fn{}) },
		func(c api.Source) { _ = append(c.Fns[0].Params, "") },
		func(c api.Source) { _ = append(c.Fns[0].Body, api.Stmt{}) },
		func(c api.Source) { _ = append(c.Fns[0].Body[0].Else, api.Stmt{}) },
		func(c api.Source) { _ = append(c.Fns[0].Body[0].E.Kids, api.Expr{}) },
	} {
		c := sources.Copied(s)
		if !sources.Untouched(c, s) {
			t.Fatalf("a copy of %v is %v", s, c)
		}
		before := sources.Copied(s)
		change(c)
		if sources.Untouched(c, s) {
			t.Errorf("change %d is not seen", i)
		}
		if !reflect.DeepEqual(before, sources.Copied(s)) {
			t.Fatalf("change %d of a copy is one of its source, too", i)
		}
	}
}

// Rows makes all rows, each but once: ifs and whiles with every way to share the statements among their blocks and what is behind them.
func TestRows(t *testing.T) {
	plain := []api.Stmt{{Kind: api.SSync}, {Kind: api.SBreak}, {Kind: api.SContinue}}
	condition := api.Expr{Kind: api.EName, Name: "a"}
	// w(n) rows: w(n-1) for each plain one; of a while all ways to part n-1 statements in two, of an if in three
	for n, want := range []int{1, 5, 40, 420} {
		rows := sources.Rows(n, condition, plain...)
		texts := map[string]int{}
		for _, row := range rows {
			src, err := text.Print(api.Source{Fns: []api.Fn{{Name: "main", Body: row}}})
			stmts := map[int]int{}
			count(row, stmts, map[int]int{})
			total := 0
			for _, k := range stmts {
				total += k
			}
			if err != api.OK || total != n {
				t.Fatalf("%v: %d, %d statements, want %d", row, err, total, n)
			}
			texts[src]++
		}
		if len(rows) != want || len(texts) != want {
			t.Errorf("%d rows of %d statements, %d of them unlike, want %d", len(rows), n, len(texts), want)
		}
	}
}
