package mean_test

import (
	"fmt"
	"strings"
	"testing"

	"plunder/api"
	"plunder/mean"
	"plunder/text"
)

// read tells the tree of a text.
func read(t *testing.T, src string) api.Source {
	t.Helper()
	s, spot := text.Parse(src)
	if spot.Err != api.OK {
		t.Fatalf("%q: %v", src, spot)
	}
	return s
}

// faults holds Check against what is wanted of a text, and the model too.
func faults(t *testing.T, promise, src string, err api.Errno, fn, at int) {
	t.Helper()
	faultsTree(t, promise, read(t, src), src, api.Fault{Err: err, Func: fn, At: at})
}

func faultsTree(t *testing.T, promise string, s api.Source, what string, want api.Fault) {
	t.Helper()
	if f := mean.Check(s); f != want {
		t.Errorf("%s: Check of %s = %v, want %v", promise, what, f, want)
	}
	if f := modelCheck(s); f != want {
		t.Errorf("%s: the model tells %v of %s, want %v", promise, f, what, want)
	}
}

// right wants nothing to be wrong with a text.
func right(t *testing.T, promise, src string) {
	t.Helper()
	faults(t, promise, src, api.OK, 0, 0)
}

const squares = " fn sq(x) { return x * x; }"

// The examples of the chapter.
func TestCheckExamples(t *testing.T) {
	const head = "fn main(n) { let a = 0; let b = 0; spawn a = sq(n); spawn b = sq(n + 1); "
	right(t, "example 1", head+"sync; return a + b; }"+squares)
	faults(t, "example 2", head+"return a + b; }"+squares, api.ErrPending, 0, 4)
	faults(t, "example 2", head+"do a; sync; return a + b; }"+squares, api.ErrPending, 0, 4)
	faults(t, "example 2", head+"return n; return a + b; }"+squares, api.ErrLate, 0, 4)
	faults(t, "example 2", head+"sync; return a + b; return 1; }"+squares, api.ErrFlow, 0, 6)
	faults(t, "example 3", "fn main(n) { if n { let x = 1; } return x; }", api.ErrUnset, 0, 2)
	faults(t, "example 3", "fn main(n) { return x; }", api.ErrUnknown, 0, 0)
	faults(t, "example 3", "fn main(n) { let n = 1; return n; }", api.ErrTwice, 0, 0)
	faults(t, "example 3", "fn main(n) { while n { return 1; } }", api.ErrNoEnd, 0, 2)
	faults(t, "example 4", "fn main(n) { let x = 0; if n { spawn x = main(0); } sync; return x; }", api.ErrPending, 0, 1)
	faults(t, "example 4", "fn main(n) { let x = 0; if n { spawn x = main(0); do y; } sync; return x; }", api.ErrUnknown, 0, 3)
	faults(t, "example 4", "fn main() { return 1; } fn f(a, a, a, a, a, a, a, a, a) { return a; }", api.ErrTwice, 1, 0)
	faults(t, "example 5", "fn main(n) { let x = 0; while n { spawn x = main(0); n = n - 1; } return x; }", api.ErrPending, 0, 1)
	right(t, "example 5", "fn main(n) { let x = 0; while n { spawn x = main(0); sync; n = n - 1; } return x; }")
	faults(t, "example 6", "fn main(n) { break; }", api.ErrFlow, 0, 0)
	right(t, "example 6", "fn main(n) { while 1 { n = n - 1; if n < 1 { break; } continue; } return n; }")
	faults(t, "example 9", "fn foo() { return 1; }", api.ErrMain, 0, 0)
	faults(t, "example 9", "fn main() { return 1; } fn f(a, a) { return a; }", api.ErrTwice, 1, 0)
	faults(t, "example 9", "fn main() { return f(1); } fn f() { return 1; }", api.ErrCount2, 0, 0)
	right(t, "example 10", "fn main(n) { return main(n); }")
}

// 15.2: what is no tree, whatever else is wrong with it.
func TestNoTree(t *testing.T) {
	leaf := api.Expr{K: 1}
	ends := api.Stmt{Kind: api.SReturn, E: leaf}
	deep := leaf
	for range 30 {
		deep = api.Expr{Kind: api.EAnd, Kids: []api.Expr{leaf, deep}}
	}
	with := func(s api.Stmt) api.Source {
		return api.Source{Fns: []api.Fn{{Name: "main", Body: []api.Stmt{s, ends}}}}
	}
	do := func(e api.Expr) api.Source { return with(api.Stmt{Kind: api.SDo, E: e}) }
	many := make([]api.Fn, 13)
	for i := range many {
		many[i] = api.Fn{Name: "f", Body: []api.Stmt{ends}}
	}
	many[12].Name = ""
	for i, s := range []api.Source{
		{}, {Fns: []api.Fn{}}, {Fns: []api.Fn{{}}}, {Fns: many},
		{Fns: []api.Fn{{Name: "foo", Params: []string{"a", "a", "while"}, Body: []api.Stmt{ends}}}},
		{Fns: []api.Fn{{Name: strings.Repeat("m", 25), Body: []api.Stmt{ends}}}},
		with(api.Stmt{Kind: -1}), with(api.Stmt{Kind: api.SContinue + 1}), with(api.Stmt{Kind: api.SLet, E: leaf}), with(api.Stmt{Kind: api.SSpawn, Name: "x", E: leaf}),
		with(api.Stmt{Kind: api.SSync, Name: "x"}), with(api.Stmt{Kind: api.SBreak, E: leaf}), with(api.Stmt{Kind: api.SDo, E: leaf, Body: []api.Stmt{ends}}), with(api.Stmt{Kind: api.SWhile, E: leaf, Else: []api.Stmt{ends}}),
		do(api.Expr{Kind: -1}), do(api.Expr{Kind: api.EOr + 1}), do(api.Expr{Kind: api.EName}), do(api.Expr{Kind: api.EName, Name: "x", K: 1}), do(api.Expr{Kind: api.ENeg}), do(api.Expr{Kind: api.EBinary, Kids: []api.Expr{leaf}}),
		do(api.Expr{Kind: api.EBinary, Op: api.NumOps, Kids: []api.Expr{leaf, leaf}}), do(api.Expr{Kind: api.ECall, Name: "min"}), do(api.Expr{Kind: api.EReduce, Name: "f", Kids: []api.Expr{leaf, leaf, leaf}}), do(api.Expr{Kind: api.EEach, Name: "f", Comb: "g", Kids: []api.Expr{leaf, leaf}}),
		do(api.Expr{Kind: api.EAnd, Kids: []api.Expr{deep, {Kind: api.ENot}}}),
	} {
		faultsTree(t, "15.2", s, fmt.Sprint("the tree ", i), api.Fault{Err: api.ErrTree})
		if m, err := mean.Run(s, nil, -1); m != (api.Meant{}) || err != api.ErrTree {
			t.Errorf("15.8: the tree %d: Run = %v, %d", i, m, err)
		}
	}
}

// nested is a name in so many calls of a function.
func nested(f, x string, calls int) api.Expr {
	e := api.Expr{Kind: api.EName, Name: x}
	for range calls {
		e = api.Expr{Kind: api.ECall, Name: f, Kids: []api.Expr{e}}
	}
	return e
}

// 15.2: a tree that has no text because it is too deep, or too long, is a tree nevertheless.
func TestTreesWithoutText(t *testing.T) {
	s := read(t, "fn main(n) { return n; } fn id(x) { return x; }")
	s.Fns[0].Body[0].E = nested("id", "n", 50)
	if _, err := text.Print(s); err != api.ErrNest {
		t.Fatalf("14.7: %d", err)
	}
	faultsTree(t, "15.2", s, "a deep tree", api.Fault{})
	if m, err := mean.Run(s, []int64{7}, 1000); m != (api.Meant{V: 7, Steps: 152, Calls: 50}) || err != api.OK {
		t.Errorf("15.8: a deep tree: %v, %d", m, err)
	}
	x := strings.Repeat("x", 24)
	s = api.Source{}
	for i := range 12 {
		fn := api.Fn{Name: strings.Repeat("f", 24-i), Params: []string{x}}
		e := nested(strings.Repeat("f", 24), x, 28)
		if i == 0 {
			fn.Name, e = "main", nested("main", x, 28)
		}
		if i == 1 {
			fn.Name = strings.Repeat("f", 24)
		}
		fn.Body = []api.Stmt{{Kind: api.SDo, E: e}, {Kind: api.SReturn, E: e}}
		s.Fns = append(s.Fns, fn)
	}
	if _, err := text.Print(s); err != api.ErrLong {
		t.Fatalf("14.7: %d", err)
	}
	faultsTree(t, "15.2", s, "a long tree", api.Fault{})
}

// repeated is a row of texts with a number in each, from 1 on.
func repeated(n int, format, between string) string {
	var all []string
	for i := range n {
		all = append(all, fmt.Sprintf(format, i+1))
	}
	return strings.Join(all, between)
}

// 15.3: the bounds of the whole source, and one beyond them.
func TestSourceSizes(t *testing.T) {
	const head = "fn main() { return 1; } "
	right(t, "15.3", head+repeated(11, "fn f%d() { return 1; }", " "))
	faults(t, "15.3", head+repeated(12, "fn f%d() { return 1; }", " "), api.ErrSize, 0, 0)
	faults(t, "15.3", "fn foo() { }"+repeated(12, "fn f%d(a, a) { }", " "), api.ErrSize, 0, 0)
	const fns = " fn b1(i) { return i; } fn b2(i) { return i; } fn b3(i) { return i; } fn c1(i, j) { return i; } fn c2(i, j) { return i; }"
	// the names of three reduces and two eaches, each of them twice
	five := "do reduce(b1, c1, 0, 1, 2) + reduce(b2, c1, 0, 1, 2) + reduce(b1, c2, 0, 1, 2); do each(b1, 3, 4) + each(b2, 5, 6);"
	again := " fn more(a) { do reduce(b1, c1, 1, 1, 1); do each(b2, 1, reduce(b1, c2, 0, 0, 0)); return each(b1, 2, 2); }"
	right(t, "15.3", "fn main() { "+five+" return 1; }"+fns+again)
	faults(t, "15.3", "fn main() { "+five+" return each(b3, 1, 1); }"+fns+again, api.ErrSize, 0, 0)
	faults(t, "15.3", "fn main() { "+five+" return 1; }"+fns+" fn more(a) { let x = 0; spawn x = more(!reduce(b3, c1, 1, 1, 1)); sync; return x; }", api.ErrSize, 0, 0)
	// loops of names that nothing has count too, and so do those that are never come to
	faults(t, "15.3", "fn foo(a, a) { return 1; do "+repeated(6, "each(g%d, 1, 1)", " + ")+"; }", api.ErrSize, 0, 0)
	faults(t, "15.3", "fn main() { do "+repeated(5, "each(g%d, 1, 1)", " + ")+"; }", api.ErrUnknown, 0, 0)
	faults(t, "15.3", "fn main() { do "+repeated(5, "reduce(g, h%d, 1, 1, 1)", " + ")+"; return each(g, 1, 1); }", api.ErrSize, 0, 0)
	faults(t, "15.3", "fn main() { do "+repeated(3, "reduce(g, h%d, 1, 1, 1)", " + ")+" + "+repeated(3, "reduce(g%d, h1, 1, 1, 1)", " + ")+"; return 1; }", api.ErrSize, 0, 0)
	// the whole is looked at ahead of its functions
	faults(t, "15.3", "fn main() { return 1; } fn f(a, b, c, d, e, f, g, h, i) { do "+repeated(6, "each(g%d, 1, 1)", " + ")+"; }", api.ErrSize, 0, 0)
}

// 15.3: the bounds of a function, and one beyond them.
func TestFunctionSizes(t *testing.T) {
	const head = "fn main() { return 1; } "
	bounds := func(format string, ok, great string) {
		t.Helper()
		right(t, "15.3", head+fmt.Sprintf(format, ok))
		faults(t, "15.3", head+fmt.Sprintf(format, great), api.ErrSize, 1, 0)
	}
	bounds("fn f(%s) { return 1; }", repeated(8, "p%d", ", "), repeated(9, "p%d", ", "))
	bounds("fn f() { %s return 1; }", repeated(8, "let v%d = 1;", " "), repeated(9, "let v%d = 1;", " "))
	bounds("fn f(a, b, c) { if a { %s } return 1; }", "let d = 1; let e = 1; let g = 1; let h = 1; let i = 1;", "let d = 1; let e = 1; let g = 1; while a { let h = 1; let i = 1; let j = 1; }")
	bounds("fn f(a1, a2, a3, a4, a5, a6, a7, a8) { %s sync; return 1; }", repeated(7, "spawn a%d = main();", " "), repeated(8, "spawn a%d = main();", " "))
	bounds("fn f(a1, a2, a3, a4, a5, a6, a7, a8) { %s return 1; }", repeated(7, "spawn a%d = main(); sync;", " ")+"spawn a1 = main(); sync;", repeated(8, "spawn a%d = main(); sync;", " "))
	// names of lets that are one variable count once; so do those of spawns
	faults(t, "15.3", head+"fn f(a1, a2, a3, a4, a5, a6, a7, a8) { let a1 = 1; }", api.ErrTwice, 1, 0)
	faults(t, "15.3", head+"fn f() { "+repeated(7, "spawn a%d = main();", " ")+" }", api.ErrUnknown, 1, 0)
	faults(t, "15.3", head+"fn f() { "+repeated(8, "spawn a%d = main();", " ")+" }", api.ErrSize, 1, 0)
	// 60 statements and expressions
	bounds("fn f() { %s return 1; }", repeated(29, "do %d;", " "), repeated(29, "do %d;", " ")+" sync;")
	bounds("fn f() { %s return 1; }", strings.Repeat("sync; ", 58), strings.Repeat("sync; ", 59))
	bounds("fn f(a) { while a { %s } return 1; }", strings.Repeat("if 1 { } else { sync; } ", 18)+"sync; break;", strings.Repeat("if 1 { } else { sync; } ", 18)+"sync; sync; continue;")
	bounds("fn f(a) { return %s; }", strings.Repeat("1 + ", 29)+"1", strings.Repeat("1 + ", 29)+"-a")
	bounds("fn f(a) { %s sync; return a; }", strings.Repeat("sync; ", 53)+"spawn a = f(-a);", strings.Repeat("sync; ", 54)+"spawn a = f(-a);")
	// the first of several functions is told, and nothing else of it or of those ahead of it
	faults(t, "15.3", "fn foo() { return x; } fn foo(a, a) { } fn f() { "+strings.Repeat("sync; ", 61)+"} fn g() { "+strings.Repeat("sync; ", 61)+"}", api.ErrSize, 2, 0)
}

// 15.3: the needs of expressions, wherever they stand.
func TestNeeds(t *testing.T) {
	const head = "fn main(a, b) { let v = 0; %s return 1; } fn f(i) { return i; } fn c(i, j) { return i; } fn e(p1, p2, p3, p4, p5, p6, p7, p8) { return 1; } fn z() { return 1; }"
	for _, c := range []struct {
		e    string // with another one of a need in it
		more int    // how much more its need is
	}{
		{"-(%s)", 1}, {"!(%s)", 1}, {"(%s) + 1", 0}, {"1 + (%s)", 1}, {"min(%s, 1)", 0}, {"max(1, %s)", 1}, {"a < (%s)", 1}, {"(%s) << a", 0},
		{"a && (%s)", 0}, {"(%s) && a", 0}, {"a || (%s)", 0}, {"(%s) || a", 0}, {"f(%s)", 0}, {"c(%s, 1)", 0}, {"c(1, %s)", 1}, {"e(1, 1, 1, 1, 1, 1, %s, 1)", 6},
		{"reduce(f, c, %s, 1, 1)", 0}, {"reduce(f, c, 1, %s, 1)", 1}, {"reduce(f, c, 1, 1, %s)", 2}, {"each(f, %s, 1)", 0}, {"each(f, 1, %s)", 1}, {"-!(1 - (%s))", 3},
	} {
		for _, in := range []string{"do %s;", "let x = %s;", "v = %s;", "if %s { }", "while %s { }", "return %s;", "spawn v = f(%s); sync;", "spawn v = c(%s, 1); sync;", "if a { do %s; }", "if a { } else { do %s; }", "while a { do %s; }"} {
			inner := strings.Repeat("-", 8-c.more-1) + "a" // its need is 8 - c.more
			src := func(e string) string {
				s := fmt.Sprintf(head, fmt.Sprintf(in, fmt.Sprintf(c.e, e)))
				if strings.HasPrefix(in, "return") {
					s = strings.Replace(s, "; return 1; }", "; }", 1)
				}
				return s
			}
			right(t, "15.3", src(inner))
			faults(t, "15.3", src("-"+inner), api.ErrSize, 0, 0)
		}
	}
	// what a kind needs at least, and the call of a spawn with its arguments
	do := func(e string) string { return fmt.Sprintf(head, "do "+e+";") }
	for e, need := range map[string]int{"1": 1, "a": 1, "z()": 1, "f(1)": 1, "c(1, 1)": 2, "e(1, 1, 1, 1, 1, 1, 1, 1)": 8, "1 + 1": 2, "a && b": 1, "-a": 2, "reduce(f, c, 1, 1, 1)": 4, "each(f, 1, 1)": 3} {
		right(t, "15.3", do(strings.Repeat("!", 8-need)+"("+e+")"))
		faults(t, "15.3", do(strings.Repeat("!", 9-need)+"("+e+")"), api.ErrSize, 0, 0)
	}
	right(t, "15.3", fmt.Sprintf(head, "spawn v = e(1, 1, 1, 1, 1, 1, 1, 1); sync;"))
	faults(t, "15.3", fmt.Sprintf(head, "spawn v = e(1, 1, 1, 1, 1, 1, 1, -a); sync;"), api.ErrSize, 0, 0)
	faults(t, "15.3", fmt.Sprintf(head, "spawn v = e(1, 1, 1, 1, 1, 1, 1, 1, 1); sync;"), api.ErrSize, 0, 0)
	faults(t, "15.3", "fn foo() { return 1; } fn foo() { do g(1, 1, 1, 1, 1, 1, 1, 1, 1); }", api.ErrSize, 1, 0)
}

// 15.4: the names of functions and parameters.
func TestFunctionNames(t *testing.T) {
	faults(t, "15.4", "fn Main() { return 1; } fn main() { return 1; }", api.ErrMain, 0, 0)
	faults(t, "15.4", "fn f(a, a) { return x; } fn f() { }", api.ErrMain, 0, 0)
	faults(t, "15.4", "fn main(a, b, a) { return x; }", api.ErrTwice, 0, 0)
	faults(t, "15.4", "fn main() { return x; } fn main() { return x; }", api.ErrTwice, 1, 0)
	faults(t, "15.4", "fn main() { } fn f() { } fn g() { } fn f(a) { } fn g() { }", api.ErrTwice, 3, 0)
	faults(t, "15.4", "fn main() { } fn f() { } fn g(b, c, c) { } fn f(a) { }", api.ErrTwice, 2, 0)
	right(t, "15.4", "fn main(main) { let f = main; return f + main(f); } fn f(f) { return f(f); }")
	right(t, "15.4", "fn main(a) { return a; } fn f(a) { return a; } fn a(f, a) { return a(f, a); }")
}
