package dag_test

import (
	"fmt"
	"math"
	"math/rand"
	"slices"
	"testing"

	"plunder/api"
	"plunder/asm"
	"plunder/dag"
	"plunder/samples"
	"plunder/serial"
)

// one is the program of the chapter's example.
func one() api.Program {
	return asm.Program(asm.Func(0, 1, 1, asm.Spawn(0, 1, 0), asm.Sync(), asm.Load(0, 0), asm.Return(0)), leaf())
}

func leaf() api.Func { return asm.Func(0, 1, 0, asm.Const(0, 5), asm.Return(0)) }

// runs asks Of for a dag.
func runs(t *testing.T, what string, p api.Program, args []int64, fuel int, want api.Dag) api.Dag {
	t.Helper()
	d, err := dag.Of(p, args, fuel)
	if err != api.OK || d.N != want.N || !slices.Equal(d.Edges, want.Edges) {
		t.Fatalf("7.7: %s: Of(%v, %v, %d) = %v, %d, want %v", what, p, args, fuel, d, err, want)
	}
	return d
}

// fails asks Of for an error.
func fails(t *testing.T, what string, p api.Program, args []int64, fuel int, want api.Errno) {
	t.Helper()
	if d, err := dag.Of(p, args, fuel); err != want || d.N != 0 || len(d.Edges) != 0 {
		t.Errorf("7.7: %s: Of(.., %v, %d) = %d nodes, %d edges, %d, want none, %d", what, args, fuel, d.N, len(d.Edges), err, want)
	}
}

// 7.7: the chapter's example, and others by hand.
func TestOfExamples(t *testing.T) {
	d := runs(t, "the example", one(), nil, 6, of(6, 0, 1, 1, 2, 0, 3, 2, 3, 3, 4, 4, 5))
	if n, err := dag.Span(d); n != 6 || err != api.OK {
		t.Errorf("7.7: the example's span: %d, %d", n, err)
	}
	runs(t, "a return alone", asm.Program(asm.Func(0, 1, 0, asm.Return(0))), nil, 1, of(1))
	runs(t, "no child", asm.Program(asm.Func(0, 1, 0, asm.Sync(), asm.Sync(), asm.Return(0))), nil, 9, of(3, 0, 1, 1, 2))
	// two children of one sync, and a second sync that waits for none
	two := asm.Func(0, 1, 2, asm.Spawn(0, 1, 0), asm.Spawn(1, 1, 0), asm.Sync(), asm.Sync(), asm.Return(0))
	runs(t, "two children", asm.Program(two, leaf()), nil, 100, of(9, 0, 1, 1, 2, 0, 3, 3, 4, 4, 5, 2, 6, 3, 6, 5, 6, 6, 7, 7, 8))
	// something between the last spawn and the sync: the task's own node comes behind its children's returns
	late := asm.Func(0, 1, 1, asm.Spawn(0, 1, 0), asm.Const(0, 1), asm.Sync(), asm.Return(0))
	runs(t, "a late sync", asm.Program(late, leaf()), nil, 100, of(6, 0, 1, 1, 2, 0, 3, 2, 4, 3, 4, 4, 5))
	// a child behind a sync is waited for by the next sync alone
	again := asm.Func(0, 1, 1, asm.Spawn(0, 1, 0), asm.Sync(), asm.Spawn(0, 1, 0), asm.Sync(), asm.Return(0))
	runs(t, "two syncs", asm.Program(again, asm.Func(0, 1, 0, asm.Return(0))), nil, 100, of(7, 0, 1, 0, 2, 1, 2, 2, 3, 3, 4, 3, 5, 4, 5, 5, 6))
}

// 7.7: the errors of Eval, and too many nodes.
func TestOfRefuses(t *testing.T) {
	fails(t, "too little fuel", one(), nil, 5, api.ErrFuel)
	fails(t, "no fuel", one(), nil, 0, api.ErrFuel)
	fails(t, "an argument too many", one(), []int64{1}, 6, api.ErrArity)
	fails(t, "arity ahead of fuel", one(), []int64{1}, -1, api.ErrArity)
	fails(t, "wrong fuel", one(), nil, -1, api.ErrArg)
	fails(t, "wrong fuel", one(), nil, api.MaxFuel+1, api.ErrArg)
	fails(t, "wrong fuel", one(), nil, math.MinInt, api.ErrArg)
	fails(t, "no functions", api.Program{}, nil, 6, api.ErrProgram)
	fails(t, "no sync", asm.Program(asm.Func(0, 1, 1, asm.Spawn(0, 1, 0), asm.Return(0)), leaf()), nil, 6, api.ErrProgram)
	fails(t, "no end", asm.Program(asm.Func(0, 1, 0, asm.Jump(0))), nil, api.MaxFuel, api.ErrFuel)
	fails(t, "too deep", samples.Sum(), []int64{-1}, api.MaxFuel, api.ErrDeep)
	runs(t, "the most nodes", samples.Count(), []int64{2047}, api.MaxFuel, chain(api.MaxNodes))
	fails(t, "more nodes", samples.Count(), []int64{2048}, api.MaxFuel, api.ErrNodes)
	fails(t, "many more nodes", samples.Count(), []int64{2000000}, api.MaxFuel, api.ErrNodes)
	fails(t, "fuel ahead of nodes", samples.Count(), []int64{2048}, 4097, api.ErrFuel)
	odd := asm.Program(asm.Func(1, 2, 0, asm.Jump(1), samples.Count().Funcs[0].Code[0], asm.Arith(0, 0, api.Sub, 1), asm.Branch(0, 2), asm.Return(0)))
	fails(t, "one node more", odd, []int64{2047}, api.MaxFuel, api.ErrNodes)
}

// laws holds a run's dag against what serial says of the run.
func laws(t *testing.T, what string, d api.Dag, v api.Value) {
	t.Helper()
	if n, err := dag.Span(d); d.N != v.Work || n != v.Span || err != api.OK {
		t.Fatalf("7.7: %s: %d nodes, span %d, %d, want %d, %d", what, d.N, n, err, v.Work, v.Span)
	}
	if want := v.Work - 1 + v.Tasks - 1; len(d.Edges) != want {
		t.Fatalf("7.7: %s: %d edges, want %d", what, len(d.Edges), want)
	}
	in, out := make([]int, d.N), make([]int, d.N)
	for k, e := range d.Edges {
		in[e.To]++
		out[e.From]++
		if k > 0 {
			if p := d.Edges[k-1]; p.To > e.To || p.To == e.To && p.From >= e.From {
				t.Fatalf("7.7: %s: the edge %v stands ahead of %v", what, p, e)
			}
		}
	}
	// Edges go upwards alone: so each node is on a path from 0 to N - 1 just if no other one is without an edge to it or from it.
	for node := range d.N {
		if in[node] == 0 && node != 0 || out[node] == 0 && node != d.N-1 {
			t.Fatalf("7.7: %s: node %d has %d edges to it and %d from it", what, node, in[node], out[node])
		}
	}
}

// 7.7: many drawn programs have the dag that the words say, with as many nodes and the span that serial tells; their greedy schedules keep P10.
func TestDrawnRuns(t *testing.T) {
	r := rand.New(rand.NewSource(77))
	seen := map[string]int{}
	for range 4000 {
		p := samples.Draw(r.Intn, true)
		args := samples.Args(r.Intn, p)
		fuel := []int{r.Intn(20), 300, 1000, 6000}[r.Intn(4)]
		v, err := serial.Eval(p, args, fuel)
		if err == api.OK && v.Work > api.MaxNodes {
			err = api.ErrNodes
		}
		seen[fmt.Sprint("error ", err)]++
		same, sameArgs := samples.Copied(p), append(slices.Clone(args), 77)
		if err != api.OK {
			fails(t, "a drawn program", same, sameArgs[:len(args)], fuel, err)
		} else {
			d := runs(t, "a drawn program", same, sameArgs[:len(args)], fuel, dagOf(p, args))
			laws(t, fmt.Sprint(p), d, v)
			processors := 1 + r.Intn(4)
			times, _ := dag.Greedy(d, processors)
			bounds(t, d, processors, times)
			if v.Span < v.Work {
				seen["parallel"]++
			}
		}
		if !samples.Untouched(same, p) || !slices.Equal(sameArgs, append(slices.Clone(args), 77)) {
			t.Fatalf("R3: %v, %v were changed to %v, %v", p, args, same, sameArgs)
		}
	}
	for what, least := range map[string]int{"error 0": 1000, "error 62": 200, "parallel": 300} {
		if seen[what] < least {
			t.Errorf("of the drawn runs too few are %s: %d", what, seen[what])
		}
	}
}

// 7.7: trees of some size, and deep ones.
func TestTrees(t *testing.T) {
	for n := range int64(12) {
		v, _ := serial.Eval(samples.Fib(), []int64{n}, api.MaxFuel)
		laws(t, "fib", runs(t, "fib", samples.Fib(), []int64{n}, v.Work, dagOf(samples.Fib(), []int64{n})), v)
	}
	for _, n := range []int64{0, 1, 100, 511} {
		v, _ := serial.Eval(samples.Sum(), []int64{n}, api.MaxFuel)
		laws(t, "sum", runs(t, "sum", samples.Sum(), []int64{n}, v.Work, dagOf(samples.Sum(), []int64{n})), v)
	}
	// a task for each three nodes but the last ones: as deep as the nodes allow
	down := asm.Program(asm.Func(1, 3, 1, asm.Const(1, 1), asm.Arith(0, 0, api.Sub, 1), asm.Branch(0, 4), asm.Return(0), asm.Spawn(0, 0, 0), asm.Sync(), asm.Return(0)))
	v, _ := serial.Eval(down, []int64{682}, api.MaxFuel)
	laws(t, "down", runs(t, "down", down, []int64{682}, v.Work, dagOf(down, []int64{682})), v)
}

// What Of hands out is memory of its own.
func TestOfMemory(t *testing.T) {
	p := samples.Fib()
	first, _ := dag.Of(p, []int64{6}, 1000)
	kept := slices.Clone(first.Edges)
	for k := range first.Edges[:cap(first.Edges)] {
		first.Edges[:cap(first.Edges)][k] = api.Edge{From: -1, To: -1}
	}
	runs(t, "again", p, []int64{6}, 1000, api.Dag{N: first.N, Edges: kept})
}
