package trim_test

import (
	"reflect"
	"slices"
	"testing"

	"plunder/api"
	"plunder/prog"
	"plunder/samples"
	"plunder/serial"
	"plunder/trim"
)

// trimmed holds 18.2 to 18.7, 18.10 and 18.11 against a valid program, and tells what Trim makes of it.
func trimmed(t *testing.T, p api.Program) api.Program {
	t.Helper()
	c := samples.Copied(p)
	for f := range p.Funcs {
		if got, want := trim.Live(c, f), liveRows(p, f); !reflect.DeepEqual(got, want) {
			t.Fatalf("18.3: Live(%v, %d) = %v, want %v", p, f, got, want)
		}
	}
	first := neat(p)
	if got := trim.Neat(c); got != first {
		t.Fatalf("18.5: Neat(%v) = %v, want %v", p, got, first)
	}
	q, err := trim.Trim(c)
	if err != api.OK || len(q.Funcs) != len(p.Funcs) || prog.Check(q).Err != api.OK {
		t.Fatalf("18.7: Trim(%v) = %v, %d", p, q, err)
	}
	if !samples.Untouched(c, p) {
		t.Fatalf("18.11: %v has become %v", p, c)
	}
	for f := range q.Funcs {
		if q.Funcs[f].Params != p.Funcs[f].Params {
			t.Fatalf("18.7: Trim(%v) = %v: the parameters of function %d", p, q, f)
		}
	}
	if fault := neat(q); fault.Err != api.OK {
		t.Fatalf("18.7: Trim(%v) = %v is not neat: %v", p, q, fault)
	}
	if first.Err == api.OK && !sames(q, p) {
		t.Fatalf("18.10: Trim(%v) = %v, but it was neat", p, q)
	}
	if again, err := trim.Trim(q); err != api.OK || !sames(again, q) {
		t.Fatalf("18.10: Trim(%v) = %v, %d", q, again, err)
	}
	return q
}

// means holds 18.8, 18.9 and P13 against a program p and what Trim has made of it, q; it tells how p's run ends.
func means(t *testing.T, p, q api.Program, args []int64, fuel int) api.Errno {
	t.Helper()
	v, err := serial.Eval(p, args, fuel)
	if err == api.OK {
		for _, enough := range []int{fuel, v.Work} {
			w, err := serial.Eval(q, args, enough)
			if err != api.OK || w.V != v.V || w.Tasks != v.Tasks || w.Depth != v.Depth || w.Work > v.Work || w.Span > v.Span {
				t.Fatalf("18.8: %v with %v comes to %+v; trimmed, %v, with the fuel %d to %+v, %d", p, args, v, q, enough, w, err)
			}
		}
		sameTree(t, p, q, args, fuel)
	}
	w, trimmedErr := serial.Eval(q, args, min(fuel, api.MaxFuel/1024))
	if trimmedErr == api.OK {
		if v, err := serial.Eval(p, args, 1024*w.Work); err != api.OK || v.V != w.V {
			t.Fatalf("18.9: %v with %v comes to %+v, %d; trimmed, %v, to %+v", p, args, v, err, q, w)
		}
	}
	return err
}

// sameTree holds the trees of a program and of what Trim has made of it against each other.
func sameTree(t *testing.T, p, q api.Program, args []int64, fuel int) {
	t.Helper()
	nodes, err := serial.Tree(p, args, fuel)
	others, otherErr := serial.Tree(q, args, fuel)
	same := func(n, o api.Node) bool {
		less := o.Work <= n.Work
		o.Work = n.Work
		return less && n == o
	}
	if err != api.OK || otherErr != api.OK || !slices.EqualFunc(nodes, others, same) {
		t.Fatalf("18.8: the tree of %v with %v is %+v; trimmed, %v, it is %+v", p, args, nodes, q, others)
	}
}
