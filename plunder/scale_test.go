package plunder_test

import (
	"math/rand"
	"slices"
	"testing"

	"plunder/api"
	"plunder/machine"
	"plunder/plunder"
	"plunder/serial"
)

// 20.5: which error is told where several apply, with the lines written out.
func TestScaleErrors(t *testing.T) {
	long, longest := make([]int, api.MaxPicks+1), make([]int, api.MaxPicks)
	for _, c := range []struct {
		source string
		args   []int64
		most   int
		lim    api.Limits
		draws  []int
		line   string
	}{
		{"nonsense", nil, 0, api.Limits{}, long, "text: error 141 at 0"},
		{"fn main() { return m; }", nil, 0, api.Limits{}, long, "source: error 152 in 0 at 0"},
		{endless, nil, 0, api.Limits{}, long, "scale: error 2"},
		{square, []int64{1}, 1, small, long, "scale: error 2"},
		{endless, nil, 0, api.Limits{}, longest, "scale: error 61"},
		{square, []int64{1, 2}, 1, small, nil, "scale: error 61"},
		{endless, []int64{1}, 0, api.Limits{}, nil, "scale: error 110"},
		{square, []int64{1}, 65, small, nil, "scale: error 110"},
		{square, []int64{1}, -1 << 63, small, nil, "scale: error 110"},
		{endless, []int64{1}, 64, api.Limits{}, nil, "scale: error 111"},
		{square, []int64{1}, 1, api.Limits{Frames: 4097, First: 1, Most: 1}, nil, "scale: error 111"},
		{square, []int64{1}, 1, api.Limits{Frames: 1, First: 1, Most: 4097}, nil, "scale: error 111"},
		{square, []int64{1}, 1, api.Limits{Frames: 1, First: 2, Most: 1}, nil, "scale: error 111"},
		{endless, []int64{1}, 64, api.Limits{Frames: 1, First: 1, Most: 1}, nil, "scale: error 62"},
		{deep, []int64{5000}, 64, api.Limits{Frames: 1, First: 1, Most: 1}, nil, "scale: error 63"},
		{fib, []int64{14}, 64, api.Limits{Frames: 1, First: 1, Most: 4096}, nil, "scale: error 170"},
		{fib, []int64{14}, 64, api.Limits{Frames: 4096, First: 1, Most: 1}, nil, "scale: error 170"},
		{squares, []int64{3}, 2, api.Limits{Frames: 2, First: 1, Most: 3}, nil, "scale: error 170"},
		{squares, []int64{3}, 2, api.Limits{Frames: 3, First: 1, Most: 2}, nil, "scale: error 170"},
		{fib, []int64{14}, 64, wide, nil, "scale: error 2"},
	} {
		rows, r := checkScale(t, c.source, c.args, c.most, c.lim, c.draws)
		if r.Line != c.line || len(rows) != 0 || r.Outcome != (api.Outcome{}) || r.Serial != (api.Value{}) {
			t.Errorf("20.5, 20.6: Scale(%q, %v, %d, %v, %d draws) = %v, %+v, want %q", c.source, c.args, c.most, c.lim, len(c.draws), rows, r, c.line)
		}
	}
	if rows, r := checkScale(t, square, []int64{1}, 1, api.Limits{Frames: 1, First: 1, Most: 1}, longest); r.Err != api.OK || len(rows) != 1 {
		t.Errorf("20.5: with as many draws as there may be: %v, %+v", rows, r)
	}
}

// The chapter's example 7.
func TestScaleSquare(t *testing.T) {
	rows, r := checkScale(t, square, []int64{7}, 2, small, nil)
	if r.Err != api.OK || len(rows) != 2 {
		t.Fatalf("20.5: %v, %+v", rows, r)
	}
	if one := rows[0]; one.Rounds != one.Steps || one != (api.Row{Workers: 1, Rounds: one.Steps, Steps: one.Steps}) {
		t.Errorf("20.5: one worker: %+v", one)
	}
	if two := rows[1]; two.Workers != 2 || two.Steals != 0 || two.Waits != 0 || two.Rounds != (two.Steps+1)/2 {
		t.Errorf("20.5: two workers: %+v", two)
	}
}

// 20.5: the greatest work for which there are rows, and the least for which there are none.
func TestScaleLongest(t *testing.T) {
	t.Parallel()
	const loops = "fn main(n, m) { while 0 < n { n = n - 1; } while 0 < m { m = m - 1; n = m * n; } return n; }"
	// With eight workers 8 * (2 * work + 40 + 64) is 2^20 for this work, and no more picks may be.
	const most = 65484
	p, _ := plunder.Build(loops)
	for _, work := range []int{most - 1, most, most + 1} {
		args := argsFor(t, p, work)
		rows, r := checkScale(t, loops, args, 8, small, []int{5, 1})
		if long := work > most; (r.Err == api.ErrLong) != long || (len(rows) == 8) == long {
			t.Errorf("20.5: with the work %d: %v, %+v", work, rows, r)
		}
	}
}

// argsFor tells how often two loops are to be gone through, so that all comes to this work.
func argsFor(t *testing.T, p api.Program, work int) []int64 {
	t.Helper()
	workOf := func(n, m int) int {
		v, _ := serial.Eval(p, []int64{int64(n), int64(m)}, api.MaxFuel)
		return v.Work
	}
	round := workOf(2, 0) - workOf(1, 0)
	for m := range round {
		if n := (work - workOf(0, m)) / round; workOf(n, m) == work {
			return []int64{int64(n), int64(m)}
		}
	}
	t.Fatalf("no arguments come to the work %d", work)
	return nil
}

// checkRows: 20.7, and that each row's run is one that P4 speaks of.
func checkRows(t *testing.T, source string, args []int64, lim api.Limits, draws []int, rows []api.Row, v api.Value) {
	t.Helper()
	p, _ := plunder.Build(source)
	for i, x := range rows {
		workers := i + 1
		if x.Workers != workers || x.Rounds < v.Span || workers*x.Rounds < v.Work || workers*x.Rounds < x.Steps || workers*(x.Rounds-1) >= x.Steps {
			t.Errorf("20.5, 20.7: Scale(%q, %v): the row %+v, serially %+v", source, args, x, v)
		}
		o := machine.Run(p, args, workers, lim, api.Script{Picks: inTurn(workers, machine.Bound(v.Work, v.Tasks, workers, workers)), Draws: draws})
		if o.Kind != api.OutDone || o.Value != v.V {
			t.Errorf("20.7: Scale(%q, %v): by %d workers the run is %+v, serially %+v", source, args, workers, o, v)
		}
	}
}

// 20.5 to 20.7: programs with and without tasks, by few workers and by many; more workers help those that have something to share.
func TestScaleRows(t *testing.T) {
	t.Parallel()
	draws := make([]int, 3000)
	r := rand.New(rand.NewSource(20))
	for k := range draws {
		draws[k] = r.Int() - r.Int()
	}
	for _, c := range []struct {
		source string
		n      int64
		most   int
	}{
		{square, 7, 64}, {squares, 3, 64}, {fib, 10, 8}, {fib, 12, 4}, {sum, 100, 16}, {sum, 0, 5}, {deep, 100, 6}, {fib, 6, 33},
	} {
		rows, report := checkScale(t, c.source, []int64{c.n}, c.most, wide, draws)
		if len(rows) != c.most {
			t.Fatalf("20.5: Scale(%q, %d, %d): %v, %+v", c.source, c.n, c.most, rows, report)
		}
		checkRows(t, c.source, []int64{c.n}, wide, draws, rows, report.Serial)
		if c.source == fib && c.n >= 10 && (rows[3].Rounds*2 > rows[0].Rounds || rows[3].Steals == 0) {
			t.Errorf("20.5: four workers: %+v, one: %+v", rows[3], rows[0])
		}
	}
	rows, _ := plunder.Scale(fib, []int64{10}, 4, wide, draws)
	other, _ := plunder.Scale(fib, []int64{10}, 4, wide, nil)
	if slices.Equal(rows, other) || rows[0] != other[0] {
		t.Errorf("20.5: the draws are not seen, or one worker draws: %v, without draws %v", rows, other)
	}
}
