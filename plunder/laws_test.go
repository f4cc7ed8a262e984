package plunder_test

import (
	"math/rand"
	"slices"
	"testing"

	"plunder/api"
	"plunder/dag"
	"plunder/gen"
	"plunder/laws"
	"plunder/live"
	"plunder/machine"
	"plunder/mean"
	"plunder/plunder"
	"plunder/races"
	"plunder/script"
	"plunder/serial"
	"plunder/sources"
	"plunder/spy"
	"plunder/text"
	"plunder/trim"
)

// ending draws a source that comes to an end, with what it means, and a job of its program whose limits just suffice.
func ending(t *testing.T, r *rand.Rand) (api.Source, api.Meant, api.Job, api.Value) {
	t.Helper()
	for {
		s := sources.Draw(r.Intn)
		args := sources.Args(r.Intn, s)
		m, err := mean.Run(s, args, 300)
		if err != api.OK || m.Calls < 2 && r.Intn(4) > 0 {
			continue
		}
		src, _ := text.Print(s)
		p, report := plunder.Build(src)
		v, err := serial.Eval(p, args, 40*m.Steps+40)
		if report.Err != api.OK || err != api.OK || v.V != m.V {
			t.Fatalf("P8: %s with %v: %+v, the program comes to %+v, %d, want %+v", src, args, report, v, err, m)
		}
		j := api.Job{P: p, Args: args, Workers: 1 + r.Intn(5)}
		j.Lim = api.Limits{Frames: v.Tasks, First: 1 + r.Intn(min(v.Tasks, 3)), Most: v.Tasks}
		return s, m, j, v
	}
}

// P1 to P8 and 20.3: runs of what Build makes, by any script.
func TestRuns(t *testing.T) {
	t.Parallel()
	r := rand.New(rand.NewSource(1))
	kinds := map[int]int{}
	for range 500 {
		_, m, j, v := ending(t, r)
		if r.Intn(4) == 0 {
			j.Lim.Frames = 1 + r.Intn(v.Tasks)
		}
		j.S = api.Script{Picks: spy.Picks(r.Intn, r.Intn(8*v.Work*j.Workers), j.Workers), Draws: []int{r.Int(), -r.Int(), r.Int()}}
		o, events := machine.Trace(j.P, j.Args, j.Workers, j.Lim, j.S)
		laws.Check(t, j, events)
		checkOutcome(t, j, o, v, m.V)
		checkPrefix(t, j, o, events, r.Intn(1+len(j.S.Picks)))
		if t.Failed() {
			return
		}
		kinds[o.Kind]++
	}
	for kind := api.OutDone; kind <= api.OutEnded; kind++ {
		if kinds[kind] < 30 {
			t.Errorf("only %d runs had the outcome %d: %v", kinds[kind], kind, kinds)
		}
	}
}

// checkOutcome: P1, P5, P7, P8.
func checkOutcome(t *testing.T, j api.Job, o api.Outcome, v api.Value, meant int64) {
	t.Helper()
	if o.Kind == api.OutDone {
		again, err := serial.Eval(j.P, j.Args, o.Steps)
		if o.Value != meant || err != api.OK || again != v || o.Steps < v.Work || o.Frames != v.Tasks {
			t.Errorf("P1, P7, P8: %+v: %+v, serially %+v, meant is %d", j, o, v, meant)
		}
	}
	if o.Kind == api.OutFull && j.Lim.Frames == v.Tasks {
		t.Errorf("P5: %+v: %+v, with %d tasks", j, o, v.Tasks)
	}
}

// checkPrefix: P6.
func checkPrefix(t *testing.T, j api.Job, o api.Outcome, events []api.Event, n int) {
	t.Helper()
	first, seen := machine.Trace(j.P, j.Args, j.Workers, j.Lim, script.Cut(j.S, n))
	up := slices.IndexFunc(events, func(e api.Event) bool { return e.At >= n })
	if up < 0 {
		up = len(events)
	}
	if !slices.Equal(seen, events[:up]) || first.Kind != api.OutEnded && first != o {
		t.Errorf("P6: %+v: with %d picks %+v, %v, with all %+v, %v", j, n, first, seen, o, events)
	}
}

// P4, P7: scripts that are fair and just long enough.
func TestFairRuns(t *testing.T) {
	t.Parallel()
	r := rand.New(rand.NewSource(4))
	for range 150 {
		_, m, j, v := ending(t, r)
		window := j.Workers + r.Intn(2*j.Workers)
		var err api.Errno
		if j.S, err = script.Noise(r.Int63(), j.Workers, window, machine.Bound(v.Work, v.Tasks, j.Workers, window)); err != api.OK {
			continue
		}
		o := machine.Run(j.P, j.Args, j.Workers, j.Lim, j.S)
		if o.Kind != api.OutDone {
			t.Fatalf("P4: %+v: %+v", j, o)
		}
		checkOutcome(t, j, o, v, m.V)
	}
}

// P10, P12, P13, P14 of what Build makes.
func TestLayersAgree(t *testing.T) {
	t.Parallel()
	r := rand.New(rand.NewSource(14))
	dags, traces := 0, 0
	for range 200 {
		s, m, j, v := ending(t, r)
		if l, err := live.Run(j.P, j.Args, j.Workers, j.Lim, api.MaxFuel); err != api.OK || l != (api.Live{Value: m.V, Tasks: v.Tasks}) {
			t.Errorf("P12: %+v: %+v, %d, want %d and %d tasks", j, l, err, m.V, v.Tasks)
		}
		whole, _ := gen.Compile(s)
		before, _ := serial.Eval(whole, j.Args, api.MaxFuel)
		if trim.Neat(j.P).Err != api.OK || before.V != v.V || before.Tasks != v.Tasks || before.Depth != v.Depth || v.Work > before.Work || v.Span > before.Span {
			t.Errorf("P13: %+v: %+v, ahead of Trim %+v", j, v, before)
		}
		if d, err := dag.Of(j.P, j.Args, api.MaxFuel); err == api.OK {
			dags++
			checkGreedy(t, d, j.Workers, v)
		}
		if deeds, err := races.Of(j.P, j.Args, api.MaxFuel); err == api.OK {
			traces++
			if found, err := races.Detect(deeds); err != api.OK || len(found) > 0 {
				t.Errorf("P14: %+v: %v, %d", j, found, err)
			}
		}
	}
	if dags < 50 || traces < 50 {
		t.Errorf("only %d dags and %d lists of deeds", dags, traces)
	}
}

// checkGreedy: P10.
func checkGreedy(t *testing.T, d api.Dag, processors int, v api.Value) {
	t.Helper()
	times, _ := dag.Greedy(d, processors)
	units := slices.Max(times)
	span, err := dag.Span(d)
	if err != api.OK || span != v.Span || d.N != v.Work || units < span || processors*units < d.N || processors*units > d.N+(processors-1)*span {
		t.Errorf("P10: %d processors take %d units of %+v: the serial run is %+v", processors, units, d, v)
	}
}
