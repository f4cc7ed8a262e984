package gen_test

import (
	"fmt"
	"strings"
	"testing"

	"plunder/api"
	"plunder/mean"
	"plunder/serial"
)

// numbered is a row of texts with a number in each, from 1 on.
func numbered(n int, format, between string) string {
	var all []string
	for i := range n {
		all = append(all, fmt.Sprintf(format, i+1))
	}
	return strings.Join(all, between)
}

// 16.1, 'Room': expressions with the greatest need, wherever they stand, in a function with all variables.
func TestNeeds(t *testing.T) {
	const src = "fn main(a, b, c, d, p, q, r) { let v = 2; %s return v + a - b + c - d + p - q + r; } fn f(i) { return i - 3; } fn g(i, j) { return i * 2 - j; } fn e(p1, p2, p3, p4, p5, p6, p7, p8) { return p1 - p2 * 2 + p3 * 3 - p4 * 4 + p5 * 5 - p6 * 6 + p7 * 7 - p8; } fn z() { return 9; }"
	for _, c := range []struct {
		e    string // with another one of a need in it
		more int    // how much more its need is
	}{
		{"-(%s)", 1}, {"!(%s)", 1}, {"(%s) + 1", 0}, {"1 - (%s)", 1}, {"min(%s, 1)", 0}, {"max(1, %s)", 1}, {"a < (%s)", 1}, {"(%s) << a", 0},
		{"a && (%s)", 0}, {"(%s) && a", 0}, {"!a || (%s)", 1}, {"(%s) || a", 0}, {"f(%s)", 0}, {"g(%s, 1)", 0}, {"g(1, %s)", 1}, {"e(1, 1, 1, 1, 1, 1, %s, 1)", 6}, {"e(1, 1, 1, 1, 1, 1, 1, %s)", 7},
		{"reduce(f, g, %s, 3, 1)", 0}, {"reduce(f, g, 1, %s, 1)", 1}, {"reduce(f, g, 1, 4, %s)", 2}, {"each(f, %s, 1)", 0}, {"each(f, 1, %s)", 1}, {"-!(1 - (%s))", 3},
		{"- - - -(%s)", 4}, {"- - - - -(%s)", 5}, {"1 + (1 + (1 + (1 + (1 + (1 + (%s))))))", 6},
	} {
		for _, in := range []string{"do %s;", "v = %s;", "if %s { v = v + 1; }", "while v < (%s) && v < 9 { v = v + 1; }", "spawn v = f(%s); sync;", "spawn v = g(%s, 1); sync;", "if a { v = %s; }", "if 0 { } else { v = %s; }"} {
			left := 8 - c.more
			inners := []string{strings.Repeat("!", left-1) + "a", strings.Repeat("!", left-1) + "z()", strings.Repeat("-(", left-1) + "5" + strings.Repeat(")", left-1), strings.Repeat("1 - (", left-1) + "b" + strings.Repeat(")", left-1)}
			if left >= 4 {
				inners = append(inners, strings.Repeat("2 - (", left-4)+"reduce(f, g, a, b, c)"+strings.Repeat(")", left-4))
			}
			if left >= 3 {
				inners = append(inners, strings.Repeat("2 - (", left-3)+"each(f, a, b)"+strings.Repeat(")", left-3))
			}
			for _, inner := range inners {
				if strings.HasPrefix(in, "while") { // there it stands at the right
					inner = strings.TrimPrefix(inner, "!")
				}
				s := read(t, fmt.Sprintf(src, fmt.Sprintf(in, fmt.Sprintf(c.e, inner))))
				if mean.Check(s).Err == api.ErrSize && strings.HasPrefix(in, "while") {
					continue
				}
				means(t, s, compiled(t, s), []int64{1, 3, 2, 9, -4, 7, 100}, 4000)
			}
		}
	}
}

// 16.1, 'Room': functions as great as they may be, with as much code as their parts take.
func TestSizes(t *testing.T) {
	const rest = " fn f(i) { return i - 3; } fn g(i, j) { return i * 2 - j; }"
	spawns := numbered(7, "spawn v%d = f(v%[1]d);", " ")
	lets := numbered(7, "let v%d = %[1]d;", " ")
	for _, body := range []string{
		"return " + strings.Repeat("a && ", 29) + "a;", "return " + strings.Repeat("!a || ", 14) + "-a + a;", "return " + strings.Repeat("a - ", 29) + "1;",
		strings.Repeat("do reduce(f, g, a, a, a); ", 11) + "return each(f, a, a);", strings.Repeat("do each(f, a, a); ", 14) + "return a;", strings.Repeat("do f(f(a)); ", 14) + "return a;",
		lets + " " + spawns + " sync; sync; " + numbered(5, "spawn v%d = f(1);", " ") + " sync; sync; do 1; return v1 + v2;",
		strings.Repeat("if a { } ", 29) + "return a;", strings.Repeat("if a { } else { sync; } ", 19) + "return a;", strings.Repeat("while a { break; } ", 19) + "return a;", strings.Repeat("while 0 { continue; } ", 19) + "return a;",
		strings.Repeat("if 0 { return 1; } else ", 14) + "{ return 2; }", strings.Repeat("sync; ", 58) + "return a;",
		strings.Repeat("while a { ", 12) + "a = a - 1; " + strings.Repeat("} ", 12) + strings.Repeat("if a { ", 14) + "return 1;" + strings.Repeat(" }", 14) + " return 2;",
	} {
		s := read(t, "fn main(a) { "+body+" }"+rest)
		if fault := mean.Check(s); fault.Err != api.OK {
			t.Fatalf("%q: %v", body, fault)
		}
		for _, a := range []int64{0, 1, 2} {
			if err := means(t, s, compiled(t, s), []int64{a}, 5000); err != api.OK {
				t.Errorf("16.3: %q with %d ends with %d", body, a, err)
			}
		}
	}
}

// 16.1, 16.2: as many functions and loops as a source may have, wherever they stand, each loop at several places.
func TestMost(t *testing.T) {
	all := "reduce(f1, f3, 1, 2, 1) + reduce(f2, f3, 2, 3, 1) * 2 + reduce(f1, f4, 3, 3, 2) * 3"
	more := "each(f1, 2, 1) + each(f2, 3, 0)"
	src := "fn main(n) { let x = " + all + "; let y = " + more + "; return x * 10 + y + f5(n) + f12(n); } fn f1(i) { return i + 1; } fn f2(i) { return i * 3; } fn f3(a, b) { return a * 2 - b; } fn f4(a, b) { return b - a; } "
	for i := 5; i < 12; i++ {
		src += fmt.Sprintf("fn f%d(n) { if n < 1 { return 0; } return %s - f%d(n - 1); } ", i, more, i)
	}
	src = strings.Replace(src, "f12(n)", "f11(n)", 1)
	s := read(t, src)
	if fault := mean.Check(s); fault.Err != api.OK || len(s.Fns) != api.MaxFns || loops(s) != api.MaxLoops {
		t.Fatalf("%q: %v, %d functions, %d loops", src, fault, len(s.Fns), loops(s))
	}
	p := compiled(t, s)
	for n := range int64(4) {
		if err := means(t, s, p, []int64{n}, 20000); err != api.OK {
			t.Errorf("16.3: %q with %d ends with %d", src, n, err)
		}
	}
}

// 16.1: a right tree that has no text, since it is too deep, has a program nevertheless.
func TestTreesWithoutText(t *testing.T) {
	s := read(t, "fn main(n) { return n; } fn id(x) { return x; }")
	for range 50 {
		s.Fns[0].Body[0].E = api.Expr{Kind: api.ECall, Name: "id", Kids: []api.Expr{s.Fns[0].Body[0].E}}
	}
	if err := means(t, s, compiled(t, s), []int64{7}, 1000); err != api.OK {
		t.Errorf("16.3: a deep tree ends with %d", err)
	}
}

// 16.6: what a spawn began goes on while its parent does something else, or spawns more; halves of ranges go on side by side.
func TestSideBySide(t *testing.T) {
	const work = " fn w(n) { let i = 0; while i < 500 { i = i + 1; } return i; } fn add(a, b) { return a + b; }"
	alone, _ := serial.Eval(compiled(t, read(t, "fn main() { return w(1); }"+work)), nil, api.MaxFuel)
	one := alone.Span
	for src, long := range map[string]int{
		"let a = 0; spawn a = w(1); let i = 0; while i < 500 { i = i + 1; } sync; return a;":                                                         1,
		"let a = 0; let b = 0; spawn a = w(1); spawn b = w(1); sync; return a + b;":                                                                  1,
		"let a = 0; let b = 0; let c = 0; spawn a = w(1); spawn b = w(1); if n { spawn c = w(1); } else { spawn c = w(2); } sync; return a + b + c;": 1,
		"let a = 0; let b = 0; spawn a = w(1); b = w(1); sync; return a + b;":                                                                        1,
		"let a = 0; let b = 0; spawn a = w(1); b = w(1); b = w(b); sync; return a + b;":                                                              2,
		"let a = 0; spawn a = w(1); let b = each(w, 4, 1); sync; return a + b;":                                                                      1,
		"return reduce(w, add, 0, 8, 1);": 1,
		"return reduce(w, add, 0, 8, 2);": 2,
		"return each(w, 16, 4);":          4,
	} {
		whole := "fn main() { let n = 1; " + src + " }" + work
		v := comes(t, "16.6", whole, valueOf(t, whole))
		if v.Span > long*one+200 {
			t.Errorf("16.6: %q has the span %d, want about %d", src, v.Span, long*one)
		}
	}
}

// valueOf is what a text means.
func valueOf(t *testing.T, src string) int64 {
	t.Helper()
	m, err := mean.Run(read(t, src), nil, api.MaxFuel)
	if err != api.OK {
		t.Fatalf("%q: %d", src, err)
	}
	return m.V
}
