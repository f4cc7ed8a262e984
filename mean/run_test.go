package mean_test

import (
	"fmt"
	"math"
	"strings"
	"testing"

	"plunder/api"
	"plunder/mean"
	"plunder/ops"
	"plunder/text"
)

const (
	most  = math.MaxInt64
	least = math.MinInt64
)

// meansText holds Run against what is wanted of a text, with plenty of fuel.
func meansText(t *testing.T, promise, src string, args []int64, v int64, steps, calls int) {
	t.Helper()
	s := read(t, src)
	if m, err := mean.Run(s, args, 100000); m != (api.Meant{V: v, Steps: steps, Calls: calls}) || err != api.OK {
		t.Errorf("%s: Run(%q, %v) = %v, %d, want {%d %d %d}", promise, src, args, m, err, v, steps, calls)
	}
	means(t, s, args, 100000)
}

// fails holds Run against an error.
func fails(t *testing.T, promise string, s api.Source, args []int64, fuel int, err api.Errno) {
	t.Helper()
	if m, e := mean.Run(s, args, fuel); m != (api.Meant{}) || e != err {
		src, _ := text.Print(s)
		t.Errorf("%s: Run(%q, %v, %d) = %v, %d, want %d", promise, src, args, fuel, m, e, err)
	}
}

// The examples of the chapter, and those of the whole that no workers are needed for.
func TestRunExamples(t *testing.T) {
	const two = "fn main(n) { let a = 0; let b = 0; spawn a = sq(n); spawn b = sq(n + 1); sync; return a + b; }" + squares
	meansText(t, "example 1", two, []int64{3}, 25, 25, 2)
	meansText(t, "example 6", "fn main(n) { while 1 { n = n - 1; if n < 1 { break; } continue; } return n; }", []int64{2}, 0, 23, 0)
	meansText(t, "example 7", "fn main(n) { return reduce(id, sub, 0, n, 1); } fn id(i) { return i; } fn sub(a, b) { return a - b; }", []int64{4}, 0, 59, 11)
	meansText(t, "example 8", "fn main(n) { return n && 1 / n || 7; }", []int64{0}, 1, 5, 0)
	meansText(t, "example 8", "fn main(n) { return n && 1 / n || 7; }", []int64{5}, 1, 8, 0)
	deep := read(t, "fn main(n) { return main(n); }")
	fails(t, "example 10", deep, []int64{1}, 12288, api.ErrDeep)
	fails(t, "example 10", deep, []int64{1}, 12287, api.ErrFuel)
	fails(t, "example 10", deep, []int64{1}, api.MaxFuel, api.ErrDeep)
	meansText(t, "example 1 of the whole", "fn main(n) { return n * n; }", []int64{7}, 49, 4, 0)
	fails(t, "example 2 of the whole", read(t, "fn main(n) { return n * n; }"), []int64{7, 8}, 100, api.ErrArity)
	fails(t, "example 8 of the whole", read(t, "fn main(n) { while 1 { n = n + 1; } return n; }"), []int64{7}, api.MaxFuel, api.ErrFuel)
	meansText(t, "example 9 of the whole", "fn main(n) { return reduce(id, add, 0, n, 4); } fn id(i) { return i; } fn add(a, b) { return a + b; }", []int64{10}, 45, 5+7+10*3+13*5, 10+13)
	fib := "fn main(n) { return fib(n); } fn fib(n) { if n < 2 { return n; } let a = 0; let b = 0; spawn a = fib(n - 1); spawn b = fib(n - 2); sync; return a + b; }"
	meansText(t, "example 7 of the whole", fib, []int64{10}, 55, 3+89*6+88*23, 177)
}

// 15.8: what is refused ahead of a run, and in which order.
func TestRunRefused(t *testing.T) {
	wrong := read(t, "fn main(n) { return x; }")
	ok := read(t, "fn main(a, b) { return a; }")
	none := read(t, "fn main() { return 4; }")
	for _, args := range [][]int64{nil, {1}, {1, 2, 3}} {
		for _, fuel := range []int{-1, 0, 100, api.MaxFuel + 1, math.MinInt, math.MaxInt} {
			fails(t, "15.8", api.Source{}, args, fuel, api.ErrTree)
			fails(t, "15.8", wrong, args, fuel, api.ErrUnknown)
			fails(t, "15.8", ok, args, fuel, api.ErrArity)
		}
	}
	for _, fuel := range []int{-1, api.MaxFuel + 1, math.MinInt, math.MaxInt} {
		fails(t, "15.8", ok, []int64{1, 2}, fuel, api.ErrArg)
		fails(t, "15.8", none, nil, fuel, api.ErrArg)
	}
	fails(t, "15.8", none, []int64{0}, 10, api.ErrArity)
	for _, fuel := range []int{0, 1} {
		fails(t, "15.8", none, nil, fuel, api.ErrFuel)
		fails(t, "15.8", none, []int64{}, fuel, api.ErrFuel)
	}
	for _, fuel := range []int{2, 3, api.MaxFuel} {
		if m, err := mean.Run(none, []int64{}, fuel); m != (api.Meant{V: 4, Steps: 2}) || err != api.OK {
			t.Errorf("15.8: %v, %d", m, err)
		}
	}
	for src, err := range map[string]api.Errno{
		"fn f() { return 1; }": api.ErrMain, "fn main(a, a) { return 1; }": api.ErrTwice, "fn main(n) { return main(); }": api.ErrCount2, "fn main(n) { if n { let x = 1; } return x; }": api.ErrUnset,
		"fn main(n) { spawn n = main(n); n = 1; }": api.ErrPending, "fn main(n) { spawn n = main(n); return 1; }": api.ErrLate, "fn main(n) { }": api.ErrNoEnd, "fn main(n) { break; }": api.ErrFlow,
		"fn main(n) { return " + strings.Repeat("-", 9) + "n; }": api.ErrSize,
	} {
		fails(t, "15.8", read(t, src), nil, -1, err)
	}
}

// 15.8: how deep calls may go: of a call, a spawn, a reduce and an each; and that the step of a call comes ahead of looking at the depth.
func TestDepth(t *testing.T) {
	const down = "fn main(n) { if n < 2 { return %s; } return main(n - 1); } fn one(i) { return 1; } fn both(i, j) { return 2; }"
	for _, c := range []struct {
		e     string
		steps int  // up to the first call, with its own
		calls bool // whether there is a call at all
	}{
		{"n", 1, false}, {"one(n)", 2, true}, {"1 + one(3)", 4, true}, {"reduce(one, both, 0, 1, 1)", 6, true}, {"reduce(one, both, 0, 2, 1)", 7, true}, {"each(one, 1, 1)", 5, true}, {"each(one, 4, 1)", 7, true}, {"each(one, 0, 1)", 3, false}, {"reduce(one, both, 7, 0, 1)", 4, false},
		{"0 && one(1)", 2, false}, {"both(1, both(1, 1))", 5, true},
	} {
		s := read(t, fmt.Sprintf(down, c.e))
		perLevel := 1 + 3 + 1 + 1 + 3
		ahead := func(n int) int { return (n-1)*perLevel + 1 + 3 + 1 }
		if _, err := mean.Run(s, []int64{4095}, api.MaxFuel); err != api.OK {
			t.Errorf("15.8: %s at the depth 4095: %d", c.e, err)
		}
		fails(t, "15.8", s, []int64{4097}, api.MaxFuel, api.ErrDeep)
		fails(t, "15.8", s, []int64{4097}, 4096*perLevel, api.ErrDeep)
		fails(t, "15.8", s, []int64{4097}, 4096*perLevel-1, api.ErrFuel)
		if c.calls {
			fails(t, "15.8", s, []int64{4096}, api.MaxFuel, api.ErrDeep)
			fails(t, "15.8", s, []int64{4096}, ahead(4096)+c.steps, api.ErrDeep)
		} else if m, err := mean.Run(s, []int64{4096}, ahead(4096)+c.steps); m.Steps != ahead(4096)+c.steps || m.Calls != 4095 || err != api.OK {
			t.Errorf("15.8: %s at the depth 4096: %v, %d", c.e, m, err)
		}
		fails(t, "15.8", s, []int64{4096}, ahead(4096)+c.steps-1, api.ErrFuel)
	}
	// the calls of a combining function are as deep as those of the body
	s := read(t, "fn main(n) { if n < 2 { return reduce(one, both, 0, 2, 2); } return main(n - 1); } fn one(i) { return 1; } fn both(i, j) { return one(i); }")
	fails(t, "15.13", s, []int64{4095}, api.MaxFuel, api.ErrDeep)
	if m, err := mean.Run(s, []int64{4094}, api.MaxFuel); m.V != 1 || m.Calls != 4093+2+4 || err != api.OK {
		t.Errorf("15.13: %v, %d", m, err)
	}
	spawned := read(t, "fn main(n) { if n < 2 { return 0; } spawn n = main(n - 1); sync; return n + 1; }")
	if m, err := mean.Run(spawned, []int64{4096}, api.MaxFuel); m.V != 4095 || m.Calls != 4095 || err != api.OK {
		t.Errorf("15.8: %v, %d", m, err)
	}
	fails(t, "15.8", spawned, []int64{4097}, api.MaxFuel, api.ErrDeep)
}

// 15.9, 15.10: statements, and the steps that they make.
func TestRunStatements(t *testing.T) {
	for _, c := range []struct {
		body         string
		a, b         int64
		v            int64
		steps, calls int
	}{
		{"return a;", 5, 6, 5, 2, 0}, {"return b;", 5, 6, 6, 2, 0}, {"let x = a; return x + b;", 5, 6, 11, 6, 0}, {"a = b; b = 1; return a;", 5, 6, 6, 6, 0}, {"do a + b; return a;", 5, 6, 5, 6, 0}, {"sync; sync; return a;", 5, 6, 5, 4, 0},
		{"if a { return 1; } return 2;", 5, 6, 1, 4, 0}, {"if a { return 1; } return 2;", 0, 6, 2, 4, 0}, {"if a { return 1; } else { return 3; }", least, 6, 1, 4, 0}, {"if a { return 1; } else { b = 3; } return b;", 0, 6, 3, 6, 0}, {"if a { } return b;", 1, 6, 6, 4, 0}, {"if a { } else { } return b;", 0, 6, 6, 4, 0}, {"if a - a { return 1; } else if b { return 2; } else { return 3; }", 4, -1, 2, 8, 0},
		// a while: one step as a statement, its condition each time
		{"while a { a = a - 1; } return a;", 3, 6, 0, 1 + 4 + 3*4 + 2, 0}, {"while a { a = a - 1; } return a;", 0, 6, 0, 4, 0}, {"while a { return b; } return a;", 3, 6, 6, 4, 0}, {"while a { break; } return a;", 3, 6, 3, 5, 0}, {"while a { a = a - 1; continue; } return b;", 2, 6, 6, 1 + 3 + 2*5 + 2, 0}, {"while a { a = 0; if b { continue; } b = 9; } return b;", 2, 6, 6, 1 + 1 + 2 + 2 + 1 + 1 + 2, 0}, {"while a { a = 0; if b { continue; } b = 9; } return b;", 2, 0, 9, 1 + 1 + 2 + 2 + 2 + 1 + 2, 0},
		// break and continue are about the innermost while
		{"while a { while 1 { break; } a = a - 1; b = b + 10; } return b;", 2, 1, 21, 1 + 3 + 2*(3+8) + 2, 0}, {"while a { a = a - 1; let i = 2; while i { i = i - 1; if 1 { continue; } b = 0; } b = b + 1; } return b;", 3, 5, 8, 1 + 4 + 3*(4+2+1+3+2*(4+3)+4) + 2, 0}, {"while 1 { while 1 { if 1 { break; } } break; } return a;", 8, 0, 8, 1 + 1 + 1 + 1 + 2 + 1 + 1 + 2, 0}, {"while 1 { while 1 { return b; } }  return a;", 8, 9, 9, 1 + 1 + 1 + 1 + 2, 0},
		// spawns are calls; what was spawned is there behind the sync
		{"spawn a = inc(b); sync; return a;", 5, 6, 7, 1 + 2 + 4 + 1 + 2, 1}, {"spawn a = inc(a); spawn b = inc(b); sync; return a * b;", 5, 6, 42, 2*7 + 1 + 4, 2}, {"spawn a = inc(inc(inc(a))); sync; return a;", 5, 6, 8, 1 + 4 + 12 + 1 + 2, 3}, {"let x = 3; spawn x = inc(x); sync; spawn x = inc(x); sync; return x;", 0, 0, 5, 2 + 2*8 + 2, 2}, {"while a { spawn b = inc(b); a = a - 1; sync; } return b;", 3, 4, 7, 1 + 4 + 3*(7+4+1) + 2, 3},
		{"spawn a = inc(a); if b { b = b + 1; sync; } else { sync; b = a; } return a + b;", 1, 5, 8, 7 + 2 + 5 + 4, 1}, {"spawn a = inc(a); if b { b = b + 1; sync; } else { sync; b = a; } return a + b;", 1, 0, 4, 7 + 2 + 3 + 4, 1},
		// a variable has its value until it is set anew, in a loop too
		{"while a { a = a - 1; let x = b; b = x + 1; } return b;", 2, 3, 5, 1 + 3 + 2*(4+2+4) + 2, 0}, {"if a { let x = 4; } else { x = 5; } return x;", 0, 0, 5, 6, 0},
		// a called function has variables of its own
		{"let x = 1; do own(7); return x;", 0, 0, 1, 2 + 3 + 6 + 2, 1}, {"do own(a); do own(b); return a * 10 + b;", 3, 4, 34, 2*(3+6) + 6, 2},
	} {
		src := "fn main(a, b) { " + c.body + " } fn inc(n) { return n + 1; } fn own(a) { let x = 9; a = x; return a; }"
		meansText(t, "15.10", src, []int64{c.a, c.b}, c.v, c.steps, c.calls)
	}
}

// 15.11: expressions, what they come to and the steps that they make.
func TestRunExpressions(t *testing.T) {
	const rest = " fn id(x) { return x; } fn sub(x, y) { return x - y; } fn seven() { return 7; }"
	for _, c := range []struct {
		e            string
		a            int64
		v            int64
		steps, calls int // beside the return
	}{
		{"7", 0, 7, 1, 0}, {"-9223372036854775808", 0, least, 1, 0}, {"a", 9, 9, 1, 0}, {"-a", 9, -9, 2, 0}, {"-a", least, least, 2, 0}, {"--(a)", most, most, 3, 0}, {"!a", 0, 1, 2, 0}, {"!a", -3, 0, 2, 0}, {"!!a", 6, 1, 3, 0},
		{"a && 5", 2, 1, 3, 0}, {"a && 5", 0, 0, 2, 0}, {"a && 0", 2, 0, 3, 0}, {"a || 5", 2, 1, 2, 0}, {"a || 5", 0, 1, 3, 0}, {"a || 0", 0, 0, 3, 0}, {"a || -5", least, 1, 2, 0}, {"a && seven() || 0", 0, 0, 4, 0}, {"a && seven()", 0, 0, 2, 0}, {"a || seven()", 1, 1, 2, 0}, {"a || seven()", 0, 1, 5, 1}, {"a && seven() && 0", 3, 0, 1 + 1 + 1 + 3 + 1, 1},
		{"a + 1", most, least, 3, 0}, {"a - 1 - 2", 0, -3, 5, 0}, {"a - (1 - 2)", 0, 1, 5, 0}, {"a / 0", 5, 0, 3, 0}, {"a % 0", 5, 5, 3, 0}, {"min(a, 3) * max(a, 3)", 5, 15, 7, 0},
		{"seven()", 0, 7, 3, 1}, {"id(a)", 4, 4, 4, 1}, {"sub(a, 1)", 4, 3, 7, 1}, {"sub(1, a)", 4, -3, 7, 1}, {"id(id(id(a)))", 4, 4, 10, 3}, {"sub(sub(1, 2), sub(a, 4))", 3, 0, 1 + 7 + 7 + 4, 3}, {"seven() - seven()", 0, 0, 7, 2},
	} {
		meansText(t, "15.11", "fn main(a) { return "+c.e+"; }"+rest, []int64{c.a}, c.v, c.steps+1, c.calls)
	}
	numbers := []int64{0, 1, -1, 2, 63, 64, -64, 1 << 40, most, least, least + 1}
	for op := range api.NumOps {
		form := "a " + ops.Name(op) + " b"
		if op == api.Min || op == api.Max {
			form = ops.Name(op) + "(a, b)"
		}
		s := read(t, "fn main(a, b) { return "+form+"; }")
		for _, a := range numbers {
			for _, b := range numbers {
				want, _ := ops.Apply(op, a, b)
				if m, err := mean.Run(s, []int64{a, b}, 4); m != (api.Meant{V: want, Steps: 4}) || err != api.OK {
					t.Errorf("15.11: %s with %d and %d: %v, %d, want %d", form, a, b, m, err, want)
				}
			}
		}
	}
}

// 15.13, 15.14: reduces and eaches, with grains of all sizes and units that are none.
func TestRanges(t *testing.T) {
	const src = "fn main(u, n, g) { return %s; } fn id(i) { return i; } fn sub(a, b) { return a - b; } fn mark(a, b) { return a * 10 + b; }"
	for _, c := range []struct {
		u, n, g int64
		sub     int64 // what reduce(id, sub, ..) comes to
		mark    int64 // what reduce(id, mark, ..) comes to
		ranges  int   // how many ranges
		leaves  int   // how many of them are not cut
	}{
		{7, 0, 1, 7, 7, 0, 0}, {7, -1, 5, 7, 7, 0, 0}, {7, least, least, 7, 7, 0, 0}, {7, 1, 1, 7, 70, 1, 1}, {0, 4, 4, -6, 123, 1, 1}, {0, 4, 99, -6, 123, 1, 1}, {1, 4, most, -5, 10123, 1, 1},
		{0, 4, 1, (0 - (0 - 1)) - ((0 - 2) - (0 - 3)), 1*10 + (2*10 + 3), 7, 4}, {0, 4, 2, -1 - -5, 1*10 + 23, 3, 2}, {0, 4, 3, -1 - -5, 33, 3, 2}, {5, 3, 2, 5 - (5 - 1 - 2), 50*10 + 512, 3, 2},
		// 0..5 by 2: 0..2, 2..3, 3..5
		{0, 5, 2, (0 - 1) - ((0 - 2) - (0 - 3 - 4)), 1*10 + (2*10 + 34), 5, 3},
		{0, 2, 1, 1, 1, 3, 2}, {0, 2, 0, 1, 1, 3, 2}, {0, 2, -7, 1, 1, 3, 2}, {0, 2, least, 1, 1, 3, 2}, {0, 2, 2, -1, 1, 1, 1},
	} {
		args := []int64{c.u, c.n, c.g}
		n := int(max(c.n, 0))
		combs := n + c.ranges - c.leaves
		meansText(t, "15.13", fmt.Sprintf(src, "reduce(id, sub, u, n, g)"), args, c.sub, 5+c.ranges+n*3+combs*5, n+combs)
		meansText(t, "15.13", fmt.Sprintf(src, "reduce(id, mark, u, n, g)"), args, c.mark, 5+c.ranges+n*3+combs*7, n+combs)
		meansText(t, "15.14", fmt.Sprintf(src, "each(id, n, g)"), args, 0, 4+c.ranges+n*3, n)
	}
	// the kids are evaluated from the left, once each: the variables of the caller are not touched
	meansText(t, "15.13", "fn main(a) { let r = reduce(id, sub, -a, a + 1, a * 0); return r * 100 + a; } fn id(i) { return i; } fn sub(a, b) { return a - b; }", []int64{1}, 1*100+1, 1+1+2+3+3+3+2*3+3*5+6, 5)
	// with no end of indices the fuel runs out
	for _, e := range []string{"reduce(id, sub, 0, n, 1)", "reduce(id, sub, 0, n, n)", "each(id, n, 1)", "each(id, n, n)", "each(id, n, n - 1)", "each(id, n, -n)"} {
		s := read(t, strings.Replace(fmt.Sprintf(src, e), "(u, n, g)", "(n)", 1))
		fails(t, "15.13", s, []int64{most}, 10000, api.ErrFuel)
		means(t, s, []int64{most}, 10000)
		fails(t, "15.13", s, []int64{1 << 62}, api.MaxFuel, api.ErrFuel)
	}
	// each is run for all indices in turn: it goes deeper the higher the index is
	s := read(t, "fn main() { return each(down, 4097, 64); } fn down(n) { if n < 1 { return 0; } return down(n - 1); }")
	fails(t, "15.14", s, nil, api.MaxFuel, api.ErrFuel)
	s = read(t, "fn main(n) { return each(down, n, 1); } fn down(n) { if n < 2 { return 0; } return down(n - 1000); }")
	if m, err := mean.Run(s, []int64{3000}, api.MaxFuel); m.V != 0 || err != api.OK {
		t.Errorf("15.14: %v, %d", m, err)
	}
}
