package dag_test

import (
	"math"
	"math/rand"
	"slices"
	"testing"

	"plunder/api"
	"plunder/dag"
)

// refused asks all calls that take a dag for one error, and for nothing beside it.
func refused(t *testing.T, what string, d api.Dag, want api.Errno) {
	t.Helper()
	if err := dag.Check(d); err != want {
		t.Errorf("7.1: %s: Check = %d, want %d", what, err, want)
	}
	if n, err := dag.Span(d); n != 0 || err != want {
		t.Errorf("7.2: %s: Span = %d, %d, want 0, %d", what, n, err, want)
	}
	if l, err := dag.Earliest(d); len(l) != 0 || err != want {
		t.Errorf("7.3: %s: Earliest = %v, %d, want nothing, %d", what, l, err, want)
	}
	if l, err := dag.Critical(d); len(l) != 0 || err != want {
		t.Errorf("7.4: %s: Critical = %v, %d, want nothing, %d", what, l, err, want)
	}
	for _, processors := range []int{1, 64, 0, -1, 65, math.MinInt, math.MaxInt} {
		if l, err := dag.Greedy(d, processors); len(l) != 0 || err != want {
			t.Errorf("7.5: %s: Greedy(.., %d) = %v, %d, want nothing, %d", what, processors, l, err, want)
		}
		for _, times := range [][]int{nil, {1}, {1, 2, 3, 4}} {
			if v, err := dag.Judge(d, processors, times); v != 0 || err != want {
				t.Errorf("7.6: %s: Judge(.., %d, %v) = %d, %d, want 0, %d", what, processors, times, v, err, want)
			}
		}
	}
}

// 7.1: what is no dag, the first reason first; the other calls tell the same.
func TestCheckRefuses(t *testing.T) {
	long := slices.Repeat([]api.Edge{{From: 0, To: 1}}, api.MaxEdges+1)
	wrong := slices.Repeat([]api.Edge{{From: 1, To: 1}}, api.MaxEdges+1)
	for _, n := range []int{-1, math.MinInt, api.MaxNodes + 1, math.MaxInt} {
		refused(t, "nodes", of(n), api.ErrNodes)
		refused(t, "nodes ahead of edges", of(n, 1, 1), api.ErrNodes)
		refused(t, "nodes ahead of length", api.Dag{N: n, Edges: long}, api.ErrNodes)
	}
	refused(t, "edges", api.Dag{N: 2, Edges: long}, api.ErrLong)
	refused(t, "length ahead of edges", api.Dag{N: 2, Edges: wrong}, api.ErrLong)
	refused(t, "length ahead of edges", api.Dag{N: 0, Edges: wrong}, api.ErrLong)
	for _, e := range []api.Edge{{From: 1, To: 1}, {From: 1, To: 0}, {From: 0, To: 2}, {From: 0, To: 0}, {From: -1, To: 1}, {From: -1, To: 0}, {From: -2, To: -1}, {From: 2, To: 3}, {From: 2, To: 1}, {From: math.MinInt, To: 1}, {From: 0, To: math.MaxInt}, {From: math.MaxInt, To: math.MinInt}, {From: 0, To: math.MinInt}} {
		refused(t, "an edge", api.Dag{N: 2, Edges: []api.Edge{e}}, api.ErrEdge)
		refused(t, "a last edge", api.Dag{N: 2, Edges: []api.Edge{{From: 0, To: 1}, {From: 0, To: 1}, e}}, api.ErrEdge)
		refused(t, "the last of the most edges", api.Dag{N: 2, Edges: append(slices.Clone(long[:api.MaxEdges-1]), e)}, api.ErrEdge)
	}
	refused(t, "an edge without nodes", of(0, 0, 0), api.ErrEdge)
	refused(t, "an edge of one node", of(1, 0, 1), api.ErrEdge)
}

// paths holds Span, Earliest and Critical of a dag against what they are to be.
func paths(t *testing.T, d api.Dag, want []int) {
	t.Helper()
	longest := slices.Max(append(slices.Clone(want), 0))
	if err := dag.Check(d); err != api.OK {
		t.Fatalf("7.1: Check of %d nodes, %v: %d", d.N, d.Edges, err)
	}
	if n, err := dag.Span(d); n != longest || err != api.OK {
		t.Fatalf("7.2: Span of %d nodes, %v: %d, %d, want %d", d.N, d.Edges, n, err, longest)
	}
	if l, err := dag.Earliest(d); !slices.Equal(l, want) || err != api.OK {
		t.Fatalf("7.3: Earliest of %d nodes, %v: %v, %d, want %v", d.N, d.Edges, l, err, want)
	}
	path, err := dag.Critical(d)
	if len(path) != longest || err != api.OK {
		t.Fatalf("7.4: Critical of %d nodes, %v: %v, %d, want %d nodes", d.N, d.Edges, path, err, longest)
	}
	for k, node := range path {
		if node < 0 || node >= d.N || k > 0 && !slices.Contains(d.Edges, api.Edge{From: path[k-1], To: node}) {
			t.Fatalf("7.4: Critical of %d nodes, %v: %v is no path", d.N, d.Edges, path)
		}
	}
}

// 7.2 to 7.4: the chapter's example, and others by hand.
func TestPaths(t *testing.T) {
	paths(t, of(0), nil)
	paths(t, api.Dag{Edges: []api.Edge{}}, nil)
	paths(t, of(1), []int{1})
	paths(t, of(3), []int{1, 1, 1})
	paths(t, diamond(), []int{1, 2, 2, 3})
	paths(t, of(2, 0, 1, 0, 1), []int{1, 2})
	paths(t, of(4, 2, 3, 1, 2, 0, 1), []int{1, 2, 3, 4})
	paths(t, of(5, 0, 4, 1, 4, 2, 4, 3, 4), []int{1, 1, 1, 1, 2})
	// the longest path neither begins at the first node nor ends at the last one
	paths(t, of(6, 0, 5, 1, 2, 2, 4, 3, 4), []int{1, 1, 2, 1, 3, 2})
	// an edge that is shorter than another way, ahead of it and behind it
	paths(t, of(4, 0, 3, 0, 1, 1, 2, 2, 3), []int{1, 2, 3, 4})
	paths(t, of(4, 0, 1, 1, 2, 2, 3, 0, 3), []int{1, 2, 3, 4})
	if path, _ := dag.Critical(diamond()); !slices.Equal(path, []int{0, 1, 3}) && !slices.Equal(path, []int{0, 2, 3}) {
		t.Errorf("7.4: Critical of the diamond: %v", path)
	}
}

// 7.1 to 7.4: the greatest dags.
func TestGreatestDags(t *testing.T) {
	long := chain(api.MaxNodes)
	want := make([]int, api.MaxNodes)
	for i := range want {
		want[i] = i + 1
	}
	paths(t, long, want)
	slices.Reverse(long.Edges)
	paths(t, long, want)
	// as many edges as there may be: all of one kind, and all from the first 4 nodes to the last 4092
	paths(t, api.Dag{N: 2, Edges: slices.Repeat([]api.Edge{{From: 0, To: 1}}, api.MaxEdges)}, []int{1, 2})
	wide := api.Dag{N: api.MaxNodes}
	for to := 4; to < api.MaxNodes; to++ {
		want[to] = 2
		for from := range 4 {
			wide.Edges = append(wide.Edges, api.Edge{From: from, To: to})
		}
	}
	copy(want, []int{1, 1, 1, 1})
	paths(t, wide, want)
	r := rand.New(rand.NewSource(1))
	for range 5 {
		d := api.Dag{N: api.MaxNodes}
		for range api.MaxEdges {
			to := 1 + r.Intn(d.N-1)
			d.Edges = append(d.Edges, api.Edge{From: r.Intn(to), To: to})
		}
		paths(t, d, earliest(d))
	}
}

// 7.2 to 7.4: many drawn dags against ranks that are found in another way.
func TestDrawnPaths(t *testing.T) {
	r := rand.New(rand.NewSource(72))
	for range 4000 {
		d := drawDag(r, 20)
		paths(t, d, earliest(d))
	}
}
