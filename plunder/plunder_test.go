package plunder_test

import (
	"reflect"
	"strings"
	"sync"
	"testing"

	"plunder/api"
	"plunder/plunder"
)

const (
	square  = "fn main(n) { return n * n; }"
	squares = "fn main(n) { let a = 0; let b = 0; spawn a = sq(n); spawn b = sq(n + 1); sync; return a + b; } fn sq(x) { return x * x; }"
	fib     = "fn main(n) { return fib(n); } fn fib(n) { if n < 2 { return n; } let a = 0; let b = 0; spawn a = fib(n - 1); spawn b = fib(n - 2); sync; return a + b; }"
	endless = "fn main(n) { while 1 { n = n + 1; } return n; }"
	sum     = "fn main(n) { return reduce(id, add, 0, n, 4); } fn id(i) { return i; } fn add(a, b) { return a + b; }"
	deep    = "fn main(n) { if n < 1 { return 0; } return main(n - 1); }"
)

var (
	small = api.Limits{Frames: 4, First: 2, Most: 4}
	usual = api.Limits{Frames: 64, First: 2, Most: 64}
	wide  = api.Limits{Frames: 4096, First: 2, Most: 4096}
)

// checkBuild and its like hold a call against the chapter's words.
func checkBuild(t *testing.T, source string) api.Report {
	t.Helper()
	p, r := plunder.Build(source)
	want, report := wordsBuild(source)
	if r != report || len(p.Funcs) != len(want.Funcs) || len(p.Funcs) > 0 && !reflect.DeepEqual(p, want) {
		t.Errorf("20.1, 20.4: Build(%q) = %v, %+v, want %v, %+v", source, p, r, want, report)
	}
	return r
}

func checkExec(t *testing.T, source string, args []int64, workers int, lim api.Limits, orders string) api.Report {
	t.Helper()
	r := plunder.Exec(source, args, workers, lim, orders)
	if want := wordsExec(source, args, workers, lim, orders); r != want {
		t.Errorf("20.2, 20.4: Exec(%q, %v, %d, %v, %q) = %+v, want %+v", source, args, workers, lim, orders, r, want)
	}
	return r
}

func checkScale(t *testing.T, source string, args []int64, most int, lim api.Limits, draws []int) ([]api.Row, api.Report) {
	t.Helper()
	rows, r := plunder.Scale(source, args, most, lim, draws)
	want, report := wordsScale(source, args, most, lim, draws)
	if r != report || len(rows) != len(want) || len(rows) > 0 && !reflect.DeepEqual(rows, want) {
		t.Errorf("20.5, 20.6: Scale(%q, %v, %d, %v, ..) = %v, %+v, want %v, %+v", source, args, most, lim, rows, r, want, report)
	}
	return rows, r
}

// 20.1, 20.4: each stage's errors, with the lines written out.
func TestBuild(t *testing.T) {
	for _, c := range []struct {
		source, line string
		stage        int
		err          api.Errno
		fn, at       int
	}{
		{"", "text: error 141 at 0", api.AtText, api.ErrSyntax, 0, 0},
		{"fn main(n) { return n }", "text: error 141 at 22", api.AtText, api.ErrSyntax, 0, 22},
		{"fn main(n) { return n # 1; }", "text: error 140 at 22", api.AtText, api.ErrByte, 0, 22},
		{"fn main(n) { return 9223372036854775808; }", "text: error 143 at 20", api.AtText, api.ErrLiteral, 0, 20},
		{strings.Repeat(" ", api.MaxSource+1), "text: error 2 at 0", api.AtText, api.ErrLong, 0, 0},
		{strings.Repeat(" ", api.MaxSource), "text: error 141 at 16384", api.AtText, api.ErrSyntax, 0, 16384},
		{"fn other() { return 1; }", "source: error 150 in 0 at 0", api.AtCheck, api.ErrMain, 0, 0},
		{"fn main() { return m; }", "source: error 152 in 0 at 0", api.AtCheck, api.ErrUnknown, 0, 0},
		{"fn main() { return 1; } fn f(n) { n = 1; n = 2; m = 3; return n; }", "source: error 152 in 1 at 2", api.AtCheck, api.ErrUnknown, 1, 2},
		{strings.Replace(squares, "sync; ", "", 1), "source: error 155 in 0 at 4", api.AtCheck, api.ErrPending, 0, 4},
	} {
		want := api.Report{Stage: c.stage, Err: c.err, Func: c.fn, At: c.at, Line: c.line}
		if r := checkBuild(t, c.source); r != want {
			t.Errorf("20.1: Build(%.80q) = %+v, want %+v", c.source, r, want)
		}
	}
	for _, source := range []string{square, squares, fib, endless, sum, deep} {
		p, r := plunder.Build(source)
		if r.Stage != api.AtGen || r.Err != api.OK || !strings.HasPrefix(r.Line, "program: ") || p.Funcs[0].Params != 1 {
			t.Errorf("20.1: Build(%q) = %v, %+v", source, p, r)
		}
		checkBuild(t, source)
	}
}

// 20.2: the script is read first, then the source is looked at, and then what else is wrong.
func TestOrderOfErrors(t *testing.T) {
	for _, c := range []struct {
		source, orders, line string
		args                 []int64
		workers              int
		lim                  api.Limits
	}{
		{"nonsense", "nonsense", "script: error 100 at 0", nil, 0, api.Limits{}},
		{"nonsense", "", "script: error 100 at 0", nil, 0, api.Limits{}},
		{square, "picks 0", "script: error 100 at 7", []int64{7}, 1, small},
		{square, "picks (0 1)*1048576 draws", "script: error 2 at 0", []int64{7}, 1, small},
		{square, strings.Repeat(" ", api.MaxScript+1), "script: error 2 at 0", []int64{7}, 1, small},
		{"nonsense", "picks draws", "text: error 141 at 0", nil, 0, api.Limits{}},
		{"fn main() { return m; }", "picks draws", "source: error 152 in 0 at 0", []int64{1}, 0, api.Limits{}},
		{square, "picks 0*40 draws", "malformed: error 61", nil, 0, api.Limits{}},
		{square, "picks 0*40 draws", "malformed: error 61", []int64{7, 8}, 1, small},
	} {
		if r := checkExec(t, c.source, c.args, c.workers, c.lim, c.orders); r.Line != c.line {
			t.Errorf("20.2: Exec(%q, %v, %d, %v, %.80q): %q, want %q", c.source, c.args, c.workers, c.lim, c.orders, r.Line, c.line)
		}
	}
}

// 20.2: a run that is malformed for its workers or limits alone has its serial run told all the same.
func TestMalformedRuns(t *testing.T) {
	for _, c := range []struct {
		workers int
		lim     api.Limits
		line    string
	}{
		{0, small, "malformed: error 110; serial 49, work "},
		{65, api.Limits{}, "malformed: error 110; serial 49, work "},
		{-1, small, "malformed: error 110; serial 49, work "},
		{64, api.Limits{}, "malformed: error 111; serial 49, work "},
		{1, api.Limits{Frames: 1, First: 3, Most: 2}, "malformed: error 111; serial 49, work "},
	} {
		r := checkExec(t, square, []int64{7}, c.workers, c.lim, "picks 0*40 draws")
		if !strings.HasPrefix(r.Line, c.line) || r.Outcome != (api.Outcome{Err: r.Err}) || r.Serial.V != 49 || r.Stage != api.AtRun {
			t.Errorf("20.2: %d workers, %v: %+v", c.workers, c.lim, r)
		}
	}
}

// 20.2: where the serial run is not told: it takes too much fuel, or goes too deep.
func TestNoSerial(t *testing.T) {
	for _, c := range []struct {
		source string
		n      int64
		told   bool
	}{
		{endless, 1, false}, {deep, 4094, true}, {deep, 4095, true}, {deep, 4096, false}, {deep, 5000, false}, {fib, 16, true}, {fib, 19, false}, {square, 1 << 62, true},
	} {
		r := checkExec(t, c.source, []int64{c.n}, 2, wide, "picks (0 1)*400 draws 1")
		if (r.Serial != api.Value{}) != c.told || strings.Contains(r.Line, "; serial ") != c.told || r.Err != api.OK {
			t.Errorf("20.2: Exec(%q, %d): %+v, is the serial run to be told: %v", c.source, c.n, r, c.told)
		}
	}
}

// The chapter's examples 1 and 8.
func TestSquare(t *testing.T) {
	r := checkExec(t, square, []int64{7}, 1, small, "picks 0*40 draws")
	o := r.Outcome
	if r.Stage != api.AtRun || r.Err != api.OK || o.Kind != api.OutDone || o.Value != 49 || o.Frames != 1 || o.Steals != 0 || r.Serial.V != 49 || r.Serial.Tasks != 1 || r.Serial.Depth != 1 || r.Serial.Work != r.Serial.Span {
		t.Errorf("20.2: %+v", r)
	}
	if r := checkExec(t, square, []int64{7}, 1, small, "picks draws"); r.Outcome != (api.Outcome{Kind: api.OutEnded, Frames: 1}) || !strings.HasPrefix(r.Line, "ended after 0 steps; serial 49, work ") {
		t.Errorf("20.2: without picks: %+v", r)
	}
	if r := checkExec(t, square, []int64{-1 << 63}, 1, small, "picks 0*40 draws"); !strings.HasPrefix(r.Line, "done 0 after ") {
		t.Errorf("20.4: %+v", r)
	}
	if r := checkExec(t, "fn main(n) { return 1 - n; }", []int64{-1 << 63}, 1, small, "picks 0*40 draws"); !strings.HasPrefix(r.Line, "done -9223372036854775807 after ") {
		t.Errorf("20.4: %+v", r)
	}
}

// The examples of the whole.
func TestWhole(t *testing.T) {
	for _, c := range []struct {
		source  string
		args    []int64
		workers int
		lim     api.Limits
		orders  string
		kind    int
		value   int64
		frames  int // -1: any number
		err     api.Errno
	}{
		{square, []int64{7}, 1, usual, "picks 0*40 draws", api.OutDone, 49, 1, api.OK},
		{square, []int64{7, 8}, 1, usual, "picks 0*40 draws", api.OutMalformed, 0, 0, api.ErrArity},
		{square, []int64{7}, 0, usual, "picks 0*40 draws", api.OutMalformed, 0, 0, api.ErrWorkers},
		{square, []int64{7}, 65, usual, "picks 0*40 draws", api.OutMalformed, 0, 0, api.ErrWorkers},
		{squares, []int64{3}, 1, usual, "picks 0*500 draws", api.OutDone, 25, 3, api.OK},
		{squares, []int64{3}, 3, usual, "picks (0 1 2)*600 draws 4 5 6", api.OutDone, 25, 3, api.OK},
		{squares, []int64{3}, 64, usual, "picks (0 -1 2*2 -7)*600 draws", api.OutEnded, 0, 3, api.OK},
		{squares, []int64{3}, 3, api.Limits{Frames: 2, First: 2, Most: 64}, "picks (0 1 2)*600 draws", api.OutFull, 0, 2, api.OK},
		{fib, []int64{10}, 2, api.Limits{Frames: 178, First: 2, Most: 178}, "picks (0 1)*30000 draws", api.OutDone, 55, 178, api.OK},
		{fib, []int64{10}, 2, api.Limits{Frames: 177, First: 2, Most: 178}, "picks (0 1)*30000 draws", api.OutFull, 0, 177, api.OK},
		{endless, []int64{1}, 2, usual, "picks (0 1)*5000 draws", api.OutEnded, 0, 1, api.OK},
		{sum, []int64{10}, 3, usual, "picks (0 1 2)*9000 draws 1 2 3 4", api.OutDone, 45, -1, api.OK},
		{fib, []int64{10}, 2, usual, "picks draws", api.OutEnded, 0, 1, api.OK},
	} {
		r := checkExec(t, c.source, c.args, c.workers, c.lim, c.orders)
		if o := r.Outcome; r.Stage != api.AtRun || r.Err != c.err || o.Kind != c.kind || o.Value != c.value || c.frames >= 0 && o.Frames != c.frames {
			t.Errorf("the examples of DOC.md: Exec(%q, %v, %d, %v, %q): %+v", c.source, c.args, c.workers, c.lim, c.orders, r)
		}
	}
}

// R2: calls side by side do not see each other.
func TestSideBySide(t *testing.T) {
	want := plunder.Exec(fib, []int64{8}, 3, wide, "picks (0 1 2)*9000 draws 1 2 3")
	var calls sync.WaitGroup
	for k := range 12 {
		calls.Go(func() {
			if k%3 > 0 {
				plunder.Exec(squares, []int64{int64(k)}, k, usual, "picks (0 1)*300 draws")
			}
			if r := plunder.Exec(fib, []int64{8}, 3, wide, "picks (0 1 2)*9000 draws 1 2 3"); r != want {
				t.Errorf("R2: %+v, want %+v", r, want)
			}
		})
	}
	calls.Wait()
}

// R3: a program that is handed out is the caller's own, with the room behind the ends of its lists.
func TestOwnMemory(t *testing.T) {
	want, _ := plunder.Build(sum)
	p, _ := plunder.Build(sum)
	for f := range p.Funcs {
		code := p.Funcs[f].Code
		for k := range code[:cap(code)] {
			code[:cap(code)][k] = api.Instr{Kind: -1}
		}
	}
	for f := range p.Funcs[:cap(p.Funcs)] {
		p.Funcs[:cap(p.Funcs)][f] = api.Func{}
	}
	if q, _ := plunder.Build(sum); !reflect.DeepEqual(q, want) {
		t.Errorf("R3: what was written into a program is seen in the next one: %v, want %v", q, want)
	}
}

// R3: arguments and draws, and the room behind them, stay as they are.
func TestUntouched(t *testing.T) {
	args, draws := []int64{8, 77}, []int{3, 1, 4, 77}
	plunder.Exec(fib, args[:1], 3, wide, "picks (0 1 2)*300 draws")
	plunder.Scale(fib, args[:1], 3, wide, draws[:3])
	if !reflect.DeepEqual(args, []int64{8, 77}) || !reflect.DeepEqual(draws, []int{3, 1, 4, 77}) {
		t.Errorf("R3: %v, %v", args, draws)
	}
}
