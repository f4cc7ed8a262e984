package mean_test

import (
	"fmt"
	"math/rand"
	"testing"

	"plunder/api"
	"plunder/mean"
	"plunder/sources"
)

// rest has functions for the bodies of mains that are looked at.
const rest = " fn zero() { return 0; } fn one(i) { return i; } fn two(i, j) { return i; } fn three(i, j, k) { return i; }"

// body holds Check against a body of main(a, b).
func body(t *testing.T, promise, stmts string, err api.Errno, at int) {
	t.Helper()
	faults(t, promise, "fn main(a, b) { "+stmts+" }"+rest, err, 0, at)
}

// 15.6: names, calls, reduces and eaches, from the left.
func TestExpressions(t *testing.T) {
	const head = "let s = 0; let p = 0; if a { let u = 0; } spawn p = zero(); do "
	for e, want := range map[string]api.Errno{
		"a": api.OK, "s": api.OK, "p": api.ErrPending, "u": api.ErrUnset, "late": api.ErrUnknown, "x": api.ErrUnknown, "zero": api.ErrUnknown, "main": api.ErrUnknown,
		"zero()": api.OK, "one(s)": api.OK, "two(a, s)": api.OK, "main(a, b)": api.OK, "none()": api.ErrUnknown, "none(p)": api.ErrUnknown, "a()": api.ErrUnknown, "p()": api.ErrUnknown,
		"zero(a)": api.ErrCount2, "one()": api.ErrCount2, "one(p, p)": api.ErrCount2, "two(x)": api.ErrCount2, "main(u)": api.ErrCount2, "one(p)": api.ErrPending, "one(u)": api.ErrUnset, "one(x)": api.ErrUnknown,
		"reduce(one, two, a, b, s)": api.OK, "reduce(none, none, p, u, x)": api.ErrUnknown, "reduce(two, none, p, u, x)": api.ErrCount2, "reduce(zero, two, p, u, x)": api.ErrCount2, "reduce(one, none, p, u, p)": api.ErrUnknown,
		"reduce(one, one, p, x, x)": api.ErrCount2, "reduce(one, three, x, x, x)": api.ErrCount2, "reduce(none, one, p, u, p)": api.ErrUnknown, "reduce(one, main, p, u, x)": api.ErrPending, "reduce(one, two, u, p, x)": api.ErrUnset, "reduce(one, two, a, x, p)": api.ErrUnknown, "reduce(one, two, a, b, p)": api.ErrPending,
		"reduce(a, two, 1, 1, 1)": api.ErrUnknown, "reduce(one, b, 1, 1, 1)": api.ErrUnknown,
		"each(one, a, b)": api.OK, "each(none, p, u)": api.ErrUnknown, "each(two, p, u)": api.ErrCount2, "each(zero, p, u)": api.ErrCount2, "each(one, p, u)": api.ErrPending, "each(one, u, p)": api.ErrUnset, "each(one, a, x)": api.ErrUnknown, "each(p, a, a)": api.ErrUnknown,
		// from the left, each ahead of its kids
		"p + u": api.ErrPending, "u + p": api.ErrUnset, "x - p": api.ErrUnknown, "a * u": api.ErrUnset, "a && p": api.ErrPending, "u || p": api.ErrUnset, "0 && x": api.ErrUnknown, "1 || u": api.ErrUnset, "-p": api.ErrPending, "!u": api.ErrUnset, "min(a, p)": api.ErrPending, "max(u, p)": api.ErrUnset,
		"one(p) + none()": api.ErrPending, "none() + one(p)": api.ErrUnknown, "two(u, none())": api.ErrUnset, "two(one(), p)": api.ErrCount2, "one(one(one()))": api.ErrCount2, "zero(none())": api.ErrCount2, "-(-(a + one(!u)))": api.ErrUnset,
	} {
		src := head + e + "; let late = 0; sync; return 0;"
		if want == api.OK {
			body(t, "15.6", src, api.OK, 0)
		} else {
			body(t, "15.6", src, want, 5)
		}
	}
}

// 15.7: where expressions stand, and what a statement looks at ahead of its own.
func TestStatements(t *testing.T) {
	const head = "let p = 0; if a { let u = 0; } spawn p = zero(); "
	for s, want := range map[string]api.Errno{
		"let a = none();": api.ErrTwice, "let p = none();": api.ErrTwice, "let u = none();": api.ErrTwice, "let x = x;": api.ErrUnknown, "let x = u;": api.ErrUnset, "let x = p;": api.ErrPending, "let zero = 1;": api.OK,
		"x = p;": api.ErrUnknown, "p = x;": api.ErrPending, "u = x;": api.ErrUnknown, "u = u;": api.ErrUnset, "u = 1; do u;": api.OK, "a = p;": api.ErrPending, "zero = 1;": api.ErrUnknown,
		"spawn x = one(p);": api.ErrUnknown, "spawn p = none();": api.ErrPending, "spawn a = none();": api.ErrUnknown, "spawn a = one();": api.ErrCount2, "spawn a = one(p);": api.ErrPending, "spawn u = one(u);": api.ErrUnset, "spawn u = one(a);": api.OK, "spawn a = two(a, b);": api.OK,
		"do p;": api.ErrPending, "return u;": api.ErrUnset, "return p;": api.ErrPending, "return a;": api.ErrLate, "if p { do x; }": api.ErrPending, "while u { do x; }": api.ErrUnset, "break;": api.ErrFlow, "continue;": api.ErrFlow,
	} {
		if want == api.OK {
			body(t, "15.7", head+s+" sync; return 0;", want, 0)
		} else {
			body(t, "15.7", head+s+" sync; return 0;", want, 4)
		}
	}
}

// 15.7: what is known, set and pending along the paths.
func TestPaths(t *testing.T) {
	const ok = api.OK
	for _, c := range []struct {
		stmts string
		err   api.Errno
		at    int
	}{
		// a name is known behind its let in the numbering, on whatever path
		{"if a { let x = 0; } else { x = 1; do x; } return 0;", ok, 0}, {"if a { let x = 0; } else { do x; } return 0;", api.ErrUnset, 2},
		{"if a { let x = 0; } else { x = 1; } return x;", ok, 0}, {"if a { let x = 0; } x = 1; return x;", ok, 0}, {"while a { let x = 0; } return x;", api.ErrUnset, 2}, {"while a { let x = 0; } x = 2; return x;", ok, 0},
		{"while a { do x; let x = 0; } return 0;", api.ErrUnknown, 1}, {"while a { let x = 0; } while b { let x = 0; } return 0;", api.ErrTwice, 3}, {"if a { let x = 0; } else { let x = 0; } return 0;", api.ErrTwice, 2},
		{"if a { x = 0; } else { let x = 0; } return 0;", api.ErrUnknown, 1}, {"if a { return 0; } else { let x = 0; } return x;", ok, 0}, {"if a { let x = 0; } else { return 0; } return x;", ok, 0},
		{"while a { let x = 1; break; } return x;", api.ErrUnset, 3}, {"if a { let x = 0; return x; } x = 1; return x;", ok, 0}, {"if a { let x = 0; return x; } return x;", api.ErrUnset, 3},
		{"if a { if b { let x = 0; } else { return 1; } } else { x = 1; } return x;", ok, 0}, {"if a { if b { let x = 0; } } else { x = 1; } return x;", api.ErrUnset, 4},
		// behind a sync all that were pending are set, the others are as they were
		{"if a { let u = 0; } spawn a = zero(); sync; do a; return u;", api.ErrUnset, 5}, {"if a { let u = 0; } spawn u = zero(); sync; return u;", ok, 0}, {"sync; sync; return a;", ok, 0},
		{"spawn a = zero(); spawn b = zero(); sync; spawn a = one(b); return b;", api.ErrLate, 4}, {"spawn a = zero(); spawn b = one(a); sync; return 0;", api.ErrPending, 1}, {"spawn a = one(a); sync; return a;", ok, 0},
		// ifs
		{"if a { spawn a = zero(); } else { spawn a = zero(); } do b; sync; return a;", ok, 0}, {"if a { spawn a = zero(); } else { spawn a = zero(); } return a;", api.ErrPending, 3}, {"if a { spawn a = zero(); } else { spawn b = zero(); } sync; return a;", api.ErrPending, 0},
		{"if a { spawn a = zero(); sync; } return a;", ok, 0}, {"spawn a = zero(); if b { sync; } sync; return a;", api.ErrPending, 1}, {"spawn a = zero(); if b { sync; } else { sync; } return a;", ok, 0}, {"spawn a = zero(); if b { sync; spawn a = zero(); } return b;", api.ErrLate, 4},
		{"spawn a = zero(); if b { } sync; return a;", ok, 0}, {"spawn a = zero(); if b { sync; return a; } sync; return a;", ok, 0}, {"if a { spawn a = zero(); } else { return 1; } sync; return a;", ok, 0}, {"if a { spawn a = zero(); } else { return 1; } return a;", api.ErrPending, 3}, {"if a { return 1; } else { spawn b = zero(); } do b;", api.ErrPending, 3},
		{"if a { return 1; } else { return 2; } sync;", api.ErrFlow, 3}, {"if a { return 1; sync; }", api.ErrFlow, 2}, {"if a { return 1; } else { return 2; if b { } }", api.ErrFlow, 3}, {"return 1; while x { do y; }", api.ErrFlow, 1},
		{"if a { spawn a = zero(); if b { spawn b = zero(); } } sync; return 1;", api.ErrPending, 2}, {"if a { spawn a = zero(); if b { } else { do x; } } return 1;", api.ErrUnknown, 3},
		// whiles
		{"spawn a = zero(); while b { b = b - 1; } sync; return a;", ok, 0}, {"spawn a = zero(); while b { sync; spawn a = zero(); } sync; return a;", ok, 0}, {"spawn a = zero(); while b { sync; spawn a = zero(); } return b;", api.ErrLate, 4},
		{"spawn a = zero(); while b { sync; } return a;", api.ErrPending, 1}, {"spawn a = zero(); while b { sync; return a; } sync; return a;", ok, 0}, {"while a { spawn b = zero(); sync; } return b;", ok, 0}, {"while a { spawn b = zero(); return 1; } return b;", api.ErrLate, 2},
		{"while a { sync; } return 1;", ok, 0}, {"while 1 { } return 1;", ok, 0}, {"while 1 { }", api.ErrNoEnd, 1}, {"while a { return 1; do x; } return 1;", api.ErrFlow, 2}, {"while a { while b { spawn a = zero(); } } return 1;", api.ErrPending, 1}, {"while a { spawn b = zero(); while 1 { } sync; } return 1;", ok, 0},
		// breaks and continues
		{"while a { break; } return a;", ok, 0}, {"while a { continue; } return a;", ok, 0}, {"while a { } break;", api.ErrFlow, 1}, {"if a { continue; } return 1;", api.ErrFlow, 1}, {"while a { if b { break; } else { continue; } } return 1;", ok, 0}, {"while a { if b { break; } else { continue; } do b; } return 1;", api.ErrFlow, 4},
		{"while a { spawn b = zero(); continue; } return 1;", api.ErrPending, 2}, {"while a { spawn b = zero(); if 1 { break; } sync; } return 1;", api.ErrPending, 3}, {"while a { spawn b = zero(); if 1 { sync; break; } sync; } return b;", ok, 0}, {"while a { break; do b; } return 1;", api.ErrFlow, 2}, {"while a { continue; do b; } return 1;", api.ErrFlow, 2},
		{"spawn a = zero(); while b { break; } sync; return 1;", ok, 0}, {"spawn a = zero(); while b { sync; break; } return 1;", api.ErrPending, 3}, {"spawn a = zero(); while b { sync; spawn a = zero(); continue; } sync; return a;", ok, 0},
		// it is the innermost while that counts
		{"while 1 { spawn a = zero(); while b { break; } sync; } return 1;", ok, 0}, {"while 1 { spawn a = zero(); while b { sync; break; } } return 1;", api.ErrPending, 4}, {"while 1 { while b { spawn a = zero(); sync; continue; } break; } return 1;", ok, 0}, {"while 1 { while b { } spawn a = zero(); break; } return 1;", api.ErrPending, 3},
		// returns
		{"return 1;", ok, 0}, {"return x; return y;", api.ErrUnknown, 0}, {"return 1; return x;", api.ErrFlow, 1}, {"spawn a = zero(); return x;", api.ErrUnknown, 1}, {"spawn a = zero(); return 1; sync;", api.ErrLate, 1}, {"spawn a = zero(); if b { return 1; } sync; return a;", api.ErrLate, 2},
		// a function's end
		{"", api.ErrNoEnd, 0}, {"do 1;", api.ErrNoEnd, 1}, {"if a { return 1; }", api.ErrNoEnd, 2}, {"if a { } else { return 1; }", api.ErrNoEnd, 2}, {"while a { if b { return 1; } else { break; } }", api.ErrNoEnd, 4}, {"spawn a = zero();", api.ErrNoEnd, 1}, {"if a { return 1; } else if b { return 2; } else { return 3; }", ok, 0}, {"if a { return 1; } else if b { return 2; }", api.ErrNoEnd, 4},
	} {
		body(t, "15.7", c.stmts, c.err, c.at)
	}
}

// 15.1, 15.5: of several faults the first one on the way is told.
func TestOrder(t *testing.T) {
	body(t, "15.5", "spawn a = zero(); if b { sync; do x; } return a;", api.ErrUnknown, 3)
	body(t, "15.5", "spawn a = zero(); if b { sync; } else { do x; } return a;", api.ErrUnknown, 3)
	body(t, "15.5", "spawn a = zero(); if x { sync; do y; } return a;", api.ErrUnknown, 1)
	body(t, "15.5", "spawn a = zero(); while b { sync; do x; } return a;", api.ErrUnknown, 3)
	body(t, "15.5", "if a { spawn a = zero(); } do x;", api.ErrPending, 0)
	body(t, "15.5", "while a { if b { spawn a = zero(); } spawn b = zero(); } do x;", api.ErrPending, 1)
	faults(t, "15.5", "fn main() { return 1; } fn f() { if 1 { } } fn g() { return x; }", api.ErrNoEnd, 1, 1)
	faults(t, "15.5", "fn main() { return f(); } fn f() { do 1; do 2; return x; } fn g() { }", api.ErrUnknown, 1, 2)
	faults(t, "15.5", "fn main() { return f(); } fn g() { return 1; } fn f(a) { return x; }", api.ErrCount2, 0, 0)
	// a variable of one function is none of another's
	faults(t, "15.5", "fn main(a) { let x = f(); return a; } fn f() { return 1; } fn g(b) { return x; }", api.ErrUnknown, 2, 0)
	faults(t, "15.5", "fn main(a) { let x = f(); return a; } fn f() { let x = 1; return x; } fn g(b) { let x = 1; if b { let a = 1; } return a; }", api.ErrUnset, 2, 3)
}

// shorts makes all rows of so many statements.
func shorts(n int) [][]api.Stmt {
	a, x := api.Expr{Kind: api.EName, Name: "a"}, api.Expr{Kind: api.EName, Name: "x"}
	child := api.Expr{Kind: api.ECall, Name: "main", Kids: []api.Expr{{K: 0}}}
	return sources.Rows(n, a,
		api.Stmt{Kind: api.SLet, Name: "x"}, api.Stmt{Kind: api.SSet, Name: "x", E: a}, api.Stmt{Kind: api.SSpawn, Name: "x", E: child}, api.Stmt{Kind: api.SSpawn, Name: "a", E: child}, api.Stmt{Kind: api.SSync},
		api.Stmt{Kind: api.SDo, E: x}, api.Stmt{Kind: api.SReturn, E: a}, api.Stmt{Kind: api.SBreak}, api.Stmt{Kind: api.SContinue})
}

// 15.7, 15.15, 15.16: all functions of few statements, with some behind them or not.
func TestAllShort(t *testing.T) {
	t.Parallel()
	let := api.Stmt{Kind: api.SLet, Name: "x", E: api.Expr{K: 1}}
	ret := api.Stmt{Kind: api.SReturn, E: api.Expr{Kind: api.EName, Name: "x"}}
	counts := map[api.Errno]int{}
	r := rand.New(rand.NewSource(1))
	for n := range 5 {
		for _, row := range shorts(n) {
			for _, row := range [][]api.Stmt{row, append([]api.Stmt{let}, append(row, ret)...), append([]api.Stmt{let}, append(row, api.Stmt{Kind: api.SSync}, ret)...)} {
				s := api.Source{Fns: []api.Fn{{Name: "main", Params: []string{"a"}, Body: row}}}
				want := modelCheck(s)
				if f := mean.Check(s); f != want {
					t.Fatalf("15.7: Check(%v) = %v, want %v", row, f, want)
				}
				counts[want.Err]++
				if want.Err == api.OK {
					walks(t, r, s, 4)
					means(t, s, []int64{int64(r.Intn(2))}, 60)
				}
			}
		}
	}
	for _, err := range []api.Errno{api.OK, api.ErrTwice, api.ErrUnknown, api.ErrUnset, api.ErrPending, api.ErrLate, api.ErrNoEnd, api.ErrFlow} {
		if counts[err] < 50 {
			t.Errorf("only %d functions with %d: %v", counts[err], err, counts)
		}
	}
}

// 15.1 to 15.7: sources that are drawn, and those that come of them by small changes.
func TestDrawn(t *testing.T) {
	t.Parallel()
	r := rand.New(rand.NewSource(2))
	counts := map[api.Errno]int{}
	for range 1500 {
		s := sources.Draw(r.Intn)
		if f := mean.Check(s); f != (api.Fault{}) {
			t.Fatalf("15.1: Check(%v) = %v", s, f)
		}
		for range 4 {
			from := s
			for range 3 {
				from = sources.Spoil(r.Intn, from)
				c := sources.Copied(from)
				want := modelCheck(from)
				if f := mean.Check(c); f != want {
					t.Fatalf("15.1: Check(%v) = %v, want %v", from, f, want)
				}
				if !sources.Untouched(c, from) {
					t.Fatalf("R3: Check has changed %v", from)
				}
				counts[want.Err]++
			}
		}
	}
	for _, err := range []api.Errno{api.OK, api.ErrMain, api.ErrTwice, api.ErrUnknown, api.ErrCount2, api.ErrUnset, api.ErrPending, api.ErrLate, api.ErrNoEnd, api.ErrSize, api.ErrFlow} {
		if counts[err] < 50 {
			t.Errorf("only %d sources with %d: %v", counts[err], err, fmt.Sprint(counts))
		}
	}
}
