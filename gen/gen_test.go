package gen_test

import (
	"math"
	"reflect"
	"slices"
	"strings"
	"sync"
	"testing"

	"plunder/api"
	"plunder/gen"
	"plunder/mean"
	"plunder/serial"
	"plunder/sources"
)

// comes holds the program of a text against its meaning, and wants a value.
func comes(t *testing.T, promise, src string, want int64, args ...int64) api.Value {
	t.Helper()
	s := read(t, src)
	p := compiled(t, s)
	if err := means(t, s, p, args, 100000); err != api.OK {
		t.Errorf("%s: %q with %v ends with %d", promise, src, args, err)
	}
	v, err := serial.Eval(p, args, api.MaxFuel)
	if err != api.OK || v.V != want {
		t.Errorf("%s: %q with %v comes to %+v, %d, want %d", promise, src, args, v, err, want)
	}
	return v
}

// The examples of the chapter, and of the document.
func TestExamples(t *testing.T) {
	tasks := func(v api.Value, want int) {
		t.Helper()
		if v.Tasks != want {
			t.Errorf("the examples: %+v, want %d tasks", v, want)
		}
	}
	tasks(comes(t, "16.3", "fn main(n) { return n * n; }", 49, 7), 1)
	tasks(comes(t, "16.3", "fn main(n) { let a = 0; let b = 0; spawn a = sq(n); spawn b = sq(n + 1); sync; return a + b; } fn sq(x) { return x * x; }", 25, 3), 3)
	comes(t, "16.3", "fn main(n) { return reduce(id, sub, 0, n, 1); } fn id(i) { return i; } fn sub(a, b) { return a - b; }", 0, 4)
	comes(t, "16.3", "fn main() { return each(f, 3, 1); } fn f(i) { return i; }", 0)
	tasks(comes(t, "16.3", "fn main(n) { let s = 0; while 0 < n { s = s + n; n = n - 1; } return s; }", 55, 10), 1)
	tasks(comes(t, "P8", "fn main(n) { return fib(n); } fn fib(n) { if n < 2 { return n; } let a = 0; let b = 0; spawn a = fib(n - 1); spawn b = fib(n - 2); sync; return a + b; }", 55, 10), 178)
	comes(t, "P8", "fn main(n) { return reduce(id, add, 0, n, 4); } fn id(i) { return i; } fn add(a, b) { return a + b; }", 45, 10)
	endless := read(t, "fn main(n) { while 1 { n = n + 1; } return n; }")
	if err := means(t, endless, compiled(t, endless), []int64{3}, 100000); err != api.ErrFuel {
		t.Errorf("16.4: a while without an end ends with %d", err)
	}
	refused(t, read(t, "fn main() { return x; }"), api.Fault{})
}

// 16.1: whatever is handed in, what Check refuses is refused, with Check's place.
func TestRefused(t *testing.T) {
	const fine = "fn main() { return 1; } "
	for src, want := range map[string]api.Fault{
		"fn foo() { return 1; }": {}, fine + "fn f(a, a) { return a; }": {Func: 1}, fine + "fn f(a) { do 1; do b; return a; }": {Func: 1, At: 1},
		fine + "fn f(a) { return f(); }": {Func: 1}, "fn main(n) { let x = 0; if n { spawn x = main(0); } sync; return x; }": {At: 1}, fine + fine + "fn f() { }": {Func: 1},
		fine + "fn f() { do 1; }": {Func: 1, At: 1}, fine + "fn f() { return 1; return 2; }": {Func: 1, At: 1}, fine + "fn f() { " + strings.Repeat("sync; ", 60) + "}": {Func: 1, At: 60}, fine + "fn f() { " + strings.Repeat("sync; ", 61) + "}": {Func: 1},
		fine + "fn f(x) { spawn x = main(); return 1; }": {Func: 1, At: 1}, fine + "fn f(x) { if x { let y = 1; } return y; }": {Func: 1, At: 2},
	} {
		refused(t, read(t, src), want)
	}
	leaf, ends := api.Expr{K: 1}, api.Stmt{Kind: api.SReturn, E: api.Expr{K: 1}}
	with := func(s ...api.Stmt) api.Source {
		return api.Source{Fns: []api.Fn{{Name: "main", Body: append(s, ends)}}}
	}
	do := func(e api.Expr) api.Source { return with(api.Stmt{Kind: api.SDo, E: e}) }
	for _, s := range []api.Source{
		{}, {Fns: []api.Fn{}}, {Fns: []api.Fn{{}}}, {Fns: []api.Fn{{Name: "main"}}}, {Fns: make([]api.Fn, 40)},
		with(api.Stmt{Kind: -1}), with(api.Stmt{Kind: api.SContinue + 1}), with(api.Stmt{Kind: math.MinInt}), with(api.Stmt{Kind: api.SSpawn, Name: "x", E: leaf}), with(api.Stmt{Kind: api.SSync, Name: "x"}),
		do(api.Expr{Kind: -1}), do(api.Expr{Kind: api.EOr + 1}), do(api.Expr{Kind: math.MaxInt}), do(api.Expr{Kind: api.ENeg}), do(api.Expr{Kind: api.EBinary, Op: api.NumOps, Kids: []api.Expr{leaf, leaf}}), do(api.Expr{Kind: api.EBinary, Kids: []api.Expr{leaf}}),
		do(api.Expr{Kind: api.EAnd}), do(api.Expr{Kind: api.EReduce, Name: "main", Comb: "main"}), do(api.Expr{Kind: api.EEach, Name: "main", Kids: []api.Expr{leaf, leaf, leaf}}), do(api.Expr{Kind: api.EName}), do(api.Expr{Kind: api.EName, Name: "n", K: 1}),
	} {
		if fault := mean.Check(s); fault.Err == api.OK {
			t.Errorf("%v is right", s)
		} else {
			refused(t, s, fault)
		}
	}
}

// 16.3: what the statements and expressions do, whatever stands ahead of them and behind them.
func TestMeans(t *testing.T) {
	const rest = " fn id(i) { return i; } fn sub(a, b) { return a - b; } fn zero() { return 0; }"
	for _, c := range []struct {
		body string
		want int64
	}{
		{"return 9223372036854775807;", math.MaxInt64}, {"return -9223372036854775808;", math.MinInt64}, {"return -(-9223372036854775808);", math.MinInt64}, {"return -a;", -5}, {"return !a;", 0}, {"return !0;", 1}, {"return !!a;", 1}, {"return - -a;", 5},
		{"return a - b - 1;", 1}, {"return a - (b - 1);", 3}, {"return b - a * b;", -12}, {"return sub(a, b);", 2}, {"return sub(sub(1, a), sub(b, 1));", -6}, {"return a - sub(b, 1) - zero();", 3},
		{"return a && b;", 1}, {"return a && 0;", 0}, {"return 0 && a;", 0}, {"return a || 0;", 1}, {"return 0 || b;", 1}, {"return 0 || 0;", 0}, {"return (a && b) + (0 || a) + (a && 0 || b) * 4;", 6}, {"return a + (b && 7);", 6}, {"return (a || b) - (b && (a || 0)) - 9;", -9},
		// what is set is set for all that follows, and a variable is one for the whole function
		{"a = a + 1; b = a * b; return a - b;", -12}, {"let x = a; a = b; b = x; return a - b;", -2}, {"if b { let x = 4; } else { x = 5; } return x;", 4}, {"if 0 { let x = 4; } else { x = b; } x = x + 1; return x;", 4},
		// jumps
		{"if a { } else { return 1; } return 2;", 2}, {"if 0 { return 1; } else { } return 2;", 2}, {"if 0 { return 1; } else if a { return 3; } else { return 2; }", 3}, {"if a { if 0 { return 1; } else { return 4; } } else { return 2; }", 4},
		{"let s = 0; while a { a = a - 1; if a == 2 { continue; } if a == 0 { break; } s = s * 10 + a; } return s;", 431}, {"while a { while b { b = b - 1; if b == 1 { break; } } a = a - 1; } return a * 10 + b;", 0},
		{"while a { while 1 { break; } a = a - 1; if a < 2 { break; } else { continue; } } return a;", 1}, {"while 0 { return 1; } return 2;", 2}, {"while 1 { if a < b { return a; } a = a - 1; }  return 7;", 2}, {"let n = 0; while n < 3 { n = n + 1; } return n;", 3},
		// what a spawn fills, read behind the sync, with calls and loops between
		{"spawn a = sub(a, b); spawn b = sub(b, 1); sync; return a * 10 + b;", 22}, {"spawn a = sub(a, b); let x = sub(b, 1); sync; return a * 10 + x;", 22}, {"spawn a = id(7); let x = reduce(id, sub, 0, 3, 1) * 100 + each(id, 2, 1); sync; return a * 10 + x;", -30},
		{"spawn a = id(7); while b { b = b - 1; do zero(); } sync; return a;", 7}, {"while b { spawn a = id(b); b = b - 1; sync; } return a;", 1}, {"spawn a = id(7); while b { sync; spawn a = id(a + b); b = b - 1; } sync; return a;", 13}, {"if a { spawn b = id(8); do zero(); } else { spawn b = id(9); } sync; return b;", 8},
		{"if a { spawn b = id(8); } else { return 1; } sync; return b;", 8}, {"if 0 { return 1; } else { spawn b = id(8); } sync; return b;", 8}, {"let x = 0; let y = 0; if 0 { spawn x = id(1); sync; spawn y = id(2); } else { spawn y = id(3); spawn x = id(4); sync; spawn y = id(x); } sync; return x * 10 + y;", 44},
		{"spawn b = id(b); if a { if 0 { sync; return 1; } spawn a = id(2); } else { spawn a = id(1); } sync; return a * 10 + b;", 23}, {"sync; spawn a = id(1); sync; sync; return a;", 1}, {"spawn a = sub(id(a), id(b)); sync; return a;", 2},
		// reduces and eaches, in one another and beside one another
		{"return reduce(id, sub, a, 0, 1) * 100 + reduce(id, sub, b, -1, 1);", 503}, {"return reduce(id, sub, a, 4, 4);", -1}, {"return reduce(id, sub, 0, 3, 2);", 3}, {"return reduce(id, sub, 1, b, a - 9);", 0}, {"return 100 - reduce(id, sub, reduce(id, sub, 9, 2, 9), each(id, 9, 1) + 3, b);", 95}, {"return each(id, 5, 2) - each(id, 0, 0);", 0},
		{"return sub(reduce(id, sub, 0, 2, 2), reduce(id, sub, 7, 1, each(id, 3, 9223372036854775807)));", -8},
	} {
		comes(t, "16.3", "fn main(a, b) { "+c.body+" }"+rest, c.want, 5, 3)
	}
	for op := range api.NumOps {
		s := read(t, "fn main(a, b) { return a + b; }")
		s.Fns[0].Body[0].E.Op = op
		p := compiled(t, s)
		for _, args := range [][]int64{{7, 2}, {-7, 2}, {2, -7}, {math.MinInt64, -1}, {5, 0}, {1, 63}, {3, 3}} {
			means(t, s, p, args, 100)
		}
	}
}

// 16.3: variables and functions have their names apart.
func TestNames(t *testing.T) {
	comes(t, "16.3", "fn main(f, main) { let g = f(f, main); spawn f = g(g); sync; return f - main; } fn g(main) { return main * main; } fn f(g, f) { return f - g; }", 1, 5, 8)
	comes(t, "16.3", "fn main(n) { return reduce(n, c, 3, n, 1) + each(n, 2, 1) + reduce(n, d, 1, 3, n); } fn d(n, c) { return n; } fn c(c, d) { return c * d + 1; } fn n(n) { return n + 1; }", 30, 2)
}

// 16.3, 16.4: as deep as the meaning goes, without reduces and eaches the program goes.
func TestDeep(t *testing.T) {
	s := read(t, "fn main(n) { if n < 1 { return 0; } return 1 + main(n - 1); }")
	p := compiled(t, s)
	if v, err := serial.Eval(p, []int64{api.MaxDepth - 1}, api.MaxFuel); err != api.OK || v.V != api.MaxDepth-1 || v.Depth != api.MaxDepth {
		t.Errorf("16.3: the greatest depth: %+v, %d", v, err)
	}
	for _, n := range []int64{0, 1, 4000, api.MaxDepth - 1, api.MaxDepth, math.MaxInt64} {
		want := api.OK
		if n >= api.MaxDepth {
			want = api.ErrDeep
		}
		if err := means(t, s, p, []int64{n}, 100000); err != want {
			t.Errorf("16.4: the depth %d ends with %d", n, err)
		}
		if _, err := serial.Eval(p, []int64{n}, api.MaxFuel); err != want {
			t.Errorf("16.4: the depth %d ends with %d", n, err)
		}
	}
	// a reduce in each call: a task of an added function in each
	s = read(t, "fn main(n) { if n < 1 { return 0; } return reduce(id, go, n, 1, 1); } fn go(n, i) { return 1 + main(n - 1); } fn id(i) { return i; }")
	p = compiled(t, s)
	for _, n := range []int64{0, 1, 200, 1300, 3000} {
		means(t, s, p, []int64{n}, api.MaxFuel)
	}
}

// 16.3: long runs, by loops and by many indices; whatever n and the grain are.
func TestLong(t *testing.T) {
	comes(t, "16.3", "fn main(n) { let s = 0; while n { s = s + n; n = n - 1; } return s; }", 49995000, 9999)
	fold := "fn main(n, g, u) { return reduce(id, sub, u, n, g); } fn id(i) { return i; } fn sub(a, b) { return a - b; }"
	each := "fn main(n, g, u) { return each(id, n, g) + u; } fn id(i) { return i; }"
	for _, src := range []string{fold, each} {
		s := read(t, src)
		p := compiled(t, s)
		for _, n := range []int64{math.MinInt64, -1, 0, 1, 2, 3, 5, 8, 100, 1000, 1 << 40, math.MaxInt64 - 1, math.MaxInt64} {
			for _, g := range []int64{math.MinInt64, -1, 0, 1, 2, 3, 7, 99, 100, math.MaxInt64} {
				want := api.OK
				if n > 1000 {
					want = api.ErrFuel
				}
				if err := means(t, s, p, []int64{n, g, 77}, 60000); err != want {
					t.Errorf("16.3: %q with n %d and the grain %d ends with %d", src, n, g, err)
				}
			}
		}
	}
}

// R2, R3: the same again and again, by many at once; what is handed out is new memory, and no two lists share any.
func TestAlone(t *testing.T) {
	s := read(t, "fn main(n) { let x = 0; spawn x = f(n); sync; return reduce(f, c, x, n, 1) + each(f, n, 2); } fn f(i) { if i { return i; } else { return 1; } } fn c(a, b) { return each(f, a, b); }")
	want, _ := gen.Compile(s)
	var all sync.WaitGroup
	for range 8 {
		all.Go(func() {
			p, fault := gen.Compile(s)
			if fault.Err != api.OK || !reflect.DeepEqual(p, want) {
				t.Errorf("R2: another program: %v", p)
			}
			for f := range p.Funcs {
				p.Funcs[f].Code = append(p.Funcs[f].Code, make([]api.Instr, 40)...)
			}
			for f := range p.Funcs {
				if code := want.Funcs[f].Code; !slices.Equal(p.Funcs[f].Code[:len(code)], code) {
					t.Errorf("R3: appending to the others has changed function %d", f)
				}
				clear(p.Funcs[f].Code)
			}
			clear(p.Funcs)
		})
	}
	all.Wait()
	if p, _ := gen.Compile(s); !reflect.DeepEqual(p, want) {
		t.Errorf("R3: writing into programs has changed later ones")
	}
	p, _ := gen.Compile(sources.Copied(s))
	if !reflect.DeepEqual(p, want) {
		t.Errorf("R2: the room behind lists has changed the program")
	}
}
