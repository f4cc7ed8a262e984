package mean_test

import (
	"math/rand"
	"slices"
	"strings"
	"sync"
	"testing"

	"plunder/api"
	"plunder/mean"
	"plunder/sources"
)

// walker goes along a path of a function: what conditions come to is drawn.
type walker struct {
	t     *testing.T
	r     *rand.Rand
	s     api.Source
	state map[string]string
	left  int // how many statements it still looks at
}

// How a walk through statements ends.
const (
	through = "through"
	stopped = "stopped" // it was looked at for long enough
)

// walks goes along some paths of all functions of a right source.
func walks(t *testing.T, r *rand.Rand, s api.Source, paths int) {
	t.Helper()
	for _, fn := range s.Fns {
		for range paths {
			w := walker{t, r, s, map[string]string{}, 60}
			for _, p := range fn.Params {
				w.state[p] = "set"
			}
			if end := w.block(fn.Body); end != "return" && end != stopped {
				t.Fatalf("15.15: %v: a path through %s ends with %s", s, fn.Name, end)
			}
		}
	}
}

func (w *walker) block(body []api.Stmt) string {
	for _, s := range body {
		if end := w.stmt(s); end != through {
			return end
		}
	}
	return through
}

func (w *walker) expr(e api.Expr) {
	if e.Kind == api.EName && w.state[e.Name] != "set" {
		w.t.Fatalf("15.15: %v: a path reads %s, which is %q", w.s, e.Name, w.state[e.Name])
	}
	kids := e.Kids
	if (e.Kind == api.EAnd || e.Kind == api.EOr) && w.r.Intn(2) == 0 {
		kids = kids[:1]
	}
	for _, kid := range kids {
		w.expr(kid)
	}
}

func (w *walker) stmt(s api.Stmt) string {
	w.left--
	if w.left < 0 {
		return stopped
	}
	w.expr(s.E)
	switch s.Kind {
	case api.SLet, api.SSet, api.SSpawn:
		if w.state[s.Name] == "pending" {
			w.t.Fatalf("15.15: %v: a path sets %s, which is pending", w.s, s.Name)
		}
		w.state[s.Name] = "set"
		if s.Kind == api.SSpawn {
			w.state[s.Name] = "pending"
		}
	case api.SSync:
		for x := range w.state {
			w.state[x] = "set"
		}
	case api.SReturn:
		for x, is := range w.state {
			if is == "pending" {
				w.t.Fatalf("15.15: %v: a path returns while %s is pending", w.s, x)
			}
		}
		return "return"
	case api.SIf:
		if w.r.Intn(2) == 0 {
			return w.block(s.Body)
		}
		return w.block(s.Else)
	case api.SWhile:
		for w.r.Intn(3) > 0 {
			switch end := w.block(s.Body); end {
			case "break":
				return through
			case "return", stopped:
				return end
			}
			w.expr(s.E)
		}
	case api.SBreak:
		return "break"
	case api.SContinue:
		return "continue"
	}
	return through
}

// elided has sets in the place of all spawns, and no syncs.
func elided(body []api.Stmt) []api.Stmt {
	var all []api.Stmt
	for _, s := range body {
		if s.Kind == api.SSync {
			continue
		}
		if s.Kind == api.SSpawn {
			s.Kind = api.SSet
		}
		s.Body, s.Else = elided(s.Body), elided(s.Else)
		all = append(all, s)
	}
	return all
}

// means holds Run against the model, and tells whether the source came to a value. 15.8 to 15.15, and 15.16.
func means(t *testing.T, s api.Source, args []int64, fuel int) (api.Meant, api.Errno) {
	t.Helper()
	c, handed := sources.Copied(s), append(slices.Clone(args), 77)
	meant, err := mean.Run(c, handed[:len(args)], fuel)
	model, want, wantErr := modelRun(s, args, fuel)
	if meant != want || err != wantErr {
		t.Fatalf("15.8: Run(%v, %v, %d) = %v, %d, want %v, %d", s, args, fuel, meant, err, want, wantErr)
	}
	if model.wrong != "" {
		t.Fatalf("15.15: %v with %v: %s", s, args, model.wrong)
	}
	if !sources.Untouched(c, s) || !slices.Equal(handed, append(slices.Clone(args), 77)) {
		t.Fatalf("R3: Run has changed %v, or %v", s, args)
	}
	e := api.Source{Fns: slices.Clone(s.Fns)}
	for i, fn := range e.Fns {
		e.Fns[i].Body = elided(fn.Body)
	}
	if f := mean.Check(e); f != (api.Fault{}) {
		t.Fatalf("15.16: %v is right, %v is not: %v", s, e, f)
	}
	if err == api.OK {
		want.Steps -= model.syncs
		if serial, err := mean.Run(e, args, fuel); serial != want || err != api.OK {
			t.Fatalf("15.16: Run(%v, %v, %d) = %v, %d, without its %d syncs %v, %d", s, args, fuel, meant, api.OK, model.syncs, serial, err)
		}
	}
	return meant, err
}

// 15.8 to 15.16: sources that are drawn, with little fuel and with much.
func TestDrawnRuns(t *testing.T) {
	t.Parallel()
	r := rand.New(rand.NewSource(3))
	counts, calls, syncs := map[api.Errno]int{}, 0, 0
	for range 1500 {
		s := sources.Draw(r.Intn)
		walks(t, r, s, 10)
		for range 3 {
			args := sources.Args(r.Intn, s)
			meant, err := means(t, s, args, 1<<r.Intn(15))
			counts[err]++
			calls += meant.Calls
			if model, _, err := modelRun(s, args, 5000); err == api.OK {
				syncs += model.syncs
			}
		}
	}
	if counts[api.OK] < 1500 || counts[api.ErrFuel] < 1000 || calls < 8000 || syncs < 5000 {
		t.Errorf("too few runs of a kind: %v, %d calls, %d syncs", counts, calls, syncs)
	}
}

// 15.17: less fuel than the steps, just as much, and more.
func TestFuel(t *testing.T) {
	r := rand.New(rand.NewSource(4))
	values := 0
	for range 400 {
		s := sources.Draw(r.Intn)
		args := sources.Args(r.Intn, s)
		meant, err := mean.Run(s, args, 3000)
		if err != api.OK {
			continue
		}
		values++
		fuels := []int{meant.Steps, meant.Steps + 1, meant.Steps - 1, meant.Steps + r.Intn(1000), r.Intn(meant.Steps), 0, api.MaxFuel}
		for fuel := range min(meant.Steps, 40) {
			fuels = append(fuels, fuel)
		}
		for _, fuel := range fuels {
			want, wantErr := meant, api.OK
			if fuel < meant.Steps {
				want, wantErr = api.Meant{}, api.ErrFuel
			}
			if m, err := mean.Run(s, args, fuel); m != want || err != wantErr {
				t.Fatalf("15.17: Run(%v, %v, %d) = %v, %d, want %v, %d", s, args, fuel, m, err, want, wantErr)
			}
		}
	}
	if values < 200 {
		t.Errorf("only %d runs came to a value", values)
	}
}

// renamer gives names: those of functions apart from those of variables.
type renamer struct{ fns, vars map[string]string }

// rename tells the other name of one, which it draws when it is asked for the first time.
func rename(r *rand.Rand, names map[string]string, old string) string {
	for names[old] == "" {
		name := []string{"a", "b", "f", "g", "n", "x", "y", "main", "Main", "_", "__", "x0", "iff"}[r.Intn(13)]
		if r.Intn(3) == 0 {
			name = name[:1] + strings.Repeat("z", r.Intn(24))
		}
		taken := false
		for _, other := range names {
			taken = taken || other == name
		}
		if !taken {
			names[old] = name
		}
	}
	return names[old]
}

func (n renamer) expr(r *rand.Rand, e api.Expr) api.Expr {
	switch e.Kind {
	case api.EName:
		e.Name = rename(r, n.vars, e.Name)
	case api.ECall, api.EReduce, api.EEach:
		e.Name = rename(r, n.fns, e.Name)
	}
	if e.Kind == api.EReduce {
		e.Comb = rename(r, n.fns, e.Comb)
	}
	kids := slices.Clone(e.Kids)
	for i, kid := range kids {
		kids[i] = n.expr(r, kid)
	}
	e.Kids = kids
	return e
}

func (n renamer) block(r *rand.Rand, body []api.Stmt) []api.Stmt {
	body = slices.Clone(body)
	for i, s := range body {
		if s.Name != "" {
			body[i].Name = rename(r, n.vars, s.Name)
		}
		body[i].E, body[i].Body, body[i].Else = n.expr(r, s.E), n.block(r, s.Body), n.block(r, s.Else)
	}
	return body
}

// renamed gives all other names.
func renamed(r *rand.Rand, s api.Source) api.Source {
	n := renamer{map[string]string{"main": "main"}, map[string]string{}}
	fns := slices.Clone(s.Fns)
	for i, fn := range fns {
		fns[i].Name = rename(r, n.fns, fn.Name)
		fns[i].Params = slices.Clone(fn.Params)
		for k, p := range fn.Params {
			fns[i].Params[k] = rename(r, n.vars, p)
		}
		fns[i].Body = n.block(r, fn.Body)
	}
	return api.Source{Fns: fns}
}

// 15.18: right sources and spoilt ones under other names.
func TestNames(t *testing.T) {
	t.Parallel()
	r := rand.New(rand.NewSource(5))
	counts := map[api.Errno]int{}
	for range 1500 {
		s := sources.Draw(r.Intn)
		for range 3 {
			other := renamed(r, s)
			f := mean.Check(s)
			if g := mean.Check(other); g != f {
				t.Fatalf("15.18: Check tells %v of %v, and %v of %v", f, s, g, other)
			}
			args := sources.Args(r.Intn, s)
			m, err := mean.Run(s, args, 1000)
			if n, e := mean.Run(other, args, 1000); n != m || e != err {
				t.Fatalf("15.18: with %v Run tells %v, %d of %v, and %v, %d of %v", args, m, err, s, n, e, other)
			}
			counts[err]++
			s = sources.Spoil(r.Intn, s)
		}
	}
	if counts[api.OK] < 1000 || counts[api.ErrUnknown] < 200 {
		t.Errorf("too few of a kind: %v", counts)
	}
}

// R2: the same arguments, the same answers, also from calls side by side.
func TestSideBySide(t *testing.T) {
	fib := read(t, "fn main(n) { if n < 2 { return n; } let a = 0; let b = 0; spawn a = main(n - 1); spawn b = main(n - 2); sync; return a + b; }")
	other := read(t, "fn main(n) { let a = 0; spawn a = main(n); return a; }")
	const leaves, others = 233, 232
	want := api.Meant{V: 144, Steps: leaves*6 + others*23, Calls: leaves + others - 1}
	var all sync.WaitGroup
	for range 8 {
		all.Go(func() {
			for range 10 {
				if m, err := mean.Run(fib, []int64{12}, api.MaxFuel); m != want || err != api.OK {
					t.Errorf("R2: %v, %d", m, err)
				}
				if f := mean.Check(other); f != (api.Fault{Err: api.ErrPending, At: 2}) {
					t.Errorf("R2: %v", f)
				}
			}
		})
	}
	all.Wait()
}
