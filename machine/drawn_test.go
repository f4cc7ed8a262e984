package machine_test

import (
	"math"
	"math/rand"
	"slices"
	"testing"

	"plunder/api"
	"plunder/laws"
	"plunder/machine"
	"plunder/samples"
	"plunder/script"
	"plunder/serial"
	"plunder/worker"
)

func count(events []api.Event, kind int) int {
	n := 0
	for _, e := range events {
		if e.Kind == kind {
			n++
		}
	}
	return n
}

// alike holds against two jobs that their runs are the same.
func alike(t *testing.T, law string, j, k api.Job) {
	t.Helper()
	o, events := trace(t, j)
	o2, events2 := trace(t, k)
	if o != o2 || !slices.Equal(events, events2) {
		t.Fatalf("%s: %+v: %+v, %v, but %+v: %+v, %v", law, j, o, events, k, o2, events2)
	}
}

// with is a job with other draws, or other picks.
func with(j api.Job, picks, draws []int) api.Job {
	j.S = api.Script{Picks: picks, Draws: draws}
	return j
}

// 12.2 to 12.5, 12.7, 12.8, P1, P2, P3, P5, P7, P7a and P7b: drawn runs.
func TestDrawnRuns(t *testing.T) {
	r := rand.New(rand.NewSource(12))
	kinds := map[int]int{}
	for range 4000 {
		j := samples.Job(r.Intn, 1500)
		o, events := trace(t, j)
		want, wantEvents, _ := replayed(t, j)
		if o != want || !slices.Equal(events, wantEvents) {
			t.Fatalf("12.2 to 12.4: %+v: %+v, %v, want %+v, %v", j, o, events, want, wantEvents)
		}
		if played, _, err := worker.Play(j.P, j.Args, j.Workers, j.Lim, j.S); err != api.OK || !slices.Equal(played, events) {
			t.Fatalf("12.5: %+v: %v, worker.Play tells %v, %d", j, events, played, err)
		}
		laws.Check(t, j, events)
		checkOutcome(t, j, o, events)
		checkSerial(t, j, o)
		if t.Failed() {
			return
		}
		kinds[o.Kind]++
	}
	for kind := api.OutDone; kind <= api.OutEnded; kind++ {
		if kinds[kind] < 500 {
			t.Errorf("only %d runs had the outcome %d", kinds[kind], kind)
		}
	}
}

// checkOutcome: 12.7 and 12.8.
func checkOutcome(t *testing.T, j api.Job, o api.Outcome, events []api.Event) {
	t.Helper()
	last := api.Event{At: -1}
	if len(events) > 0 {
		last = events[len(events)-1]
	}
	switch {
	case o.Err != api.OK || o.Kind == api.OutMalformed:
		t.Errorf("12.1: %+v: %+v", j, o)
	case (o.Kind == api.OutFull) != (last.Kind == api.EvFull):
		t.Errorf("12.7, P5: %+v: %+v, but the last event is %+v", j, o, last)
	case (o.Kind == api.OutDone) != (count(events, api.EvHalt) == j.Workers):
		t.Errorf("12.7: %+v: %+v, with the events %v", j, o, events)
	case o.Kind == api.OutEnded && o.Steps != len(j.S.Picks) || o.Kind != api.OutEnded && o.Steps != last.At+1:
		t.Errorf("12.8: %+v: %d steps, the last event is %+v", j, o.Steps, last)
	case o.Kind != api.OutDone && o.Value != 0:
		t.Errorf("12.3: %+v: the value %d of a run that is not done", j, o.Value)
	}
	spawned := count(events, api.EvSpawn)
	if o.Frames < 1+spawned || o.Frames > 1+spawned+j.Workers || o.Frames > j.Lim.Frames {
		t.Errorf("12.8: %+v: %d frames, with %d spawns", j, o.Frames, spawned)
	}
	if last.Kind == api.EvFull && last.X == 1 && o.Frames < 2+spawned {
		t.Errorf("12.8: %+v: %d frames, with %d spawns and one that found its deque full", j, o.Frames, spawned)
	}
	for _, e := range events {
		if o.Kind == api.OutDone && e.Kind == api.EvFinish && e.Frame == 0 && e.V != o.Value {
			t.Errorf("12.7: %+v: the value %d, the root's is %d", j, o.Value, e.V)
		}
	}
}

// checkSerial: P1, P7, and P5 with P2 for limits that suffice.
func checkSerial(t *testing.T, j api.Job, o api.Outcome) {
	t.Helper()
	if o.Kind == api.OutDone {
		v, err := serial.Eval(j.P, j.Args, o.Steps)
		if err != api.OK || v.V != o.Value {
			t.Errorf("P1: %+v: %+v, serially %+v, %d", j, o, v, err)
		}
		if o.Steps < v.Work || o.Frames != v.Tasks {
			t.Errorf("P7, P2: %+v: %+v, serially %+v", j, o, v)
		}
	}
	v, err := serial.Eval(j.P, j.Args, 20000)
	if o.Kind == api.OutFull && err == api.OK && v.Tasks <= j.Lim.Frames && v.Tasks <= j.Lim.Most {
		t.Errorf("P5: %+v: full, but there are %d tasks", j, v.Tasks)
	}
}

// 12.9 and P6: fewer picks and more.
func TestPrefixes(t *testing.T) {
	r := rand.New(rand.NewSource(6))
	for range 1000 {
		j := samples.Job(r.Intn, 1200)
		o, events := trace(t, j)
		for _, n := range []int{0, 1, r.Intn(len(j.S.Picks) + 1), r.Intn(o.Steps + 1), o.Steps - 1, o.Steps, o.Steps + 1} {
			checkPrefix(t, j, o, events, n)
		}
		if o.Kind != api.OutEnded {
			more := slices.Concat(j.S.Picks, j.S.Picks, rep(9, r.Int(), -r.Int()))
			alike(t, "12.9", j, with(j, more, j.S.Draws))
		}
	}
}

func checkPrefix(t *testing.T, j api.Job, o api.Outcome, events []api.Event, n int) {
	t.Helper()
	k := j
	k.S = script.Cut(j.S, n)
	cut, first := trace(t, k)
	behind := slices.IndexFunc(events, func(e api.Event) bool { return e.At >= len(k.S.Picks) })
	if behind < 0 {
		behind = len(events)
	}
	if !slices.Equal(first, events[:behind]) {
		t.Fatalf("P6: %+v: the first %d picks tell %v, all of them %v", j, n, first, events)
	}
	if cut.Kind != api.OutEnded && cut != o {
		t.Fatalf("P6, 12.9: %+v: the first %d picks come to %+v, all of them to %+v", j, n, cut, o)
	}
	if cut.Kind == api.OutEnded && cut.Steps != len(k.S.Picks) || o.Kind != api.OutEnded && n >= o.Steps && cut != o {
		t.Fatalf("12.9: %+v: the first %d picks come to %+v, all of them to %+v", j, n, cut, o)
	}
}

// shifted is a draw that means the same victim.
func shifted(r *rand.Rand, draw, others int) int {
	k := r.Intn(2000) - 1000
	if r.Intn(2) == 0 {
		k = (r.Int() - r.Int()) / others
	}
	by := k * others
	if by > 0 && draw > math.MaxInt-by || by < 0 && draw < math.MinInt-by {
		return draw
	}
	return draw + by
}

// 12.10
func TestDraws(t *testing.T) {
	r := rand.New(rand.NewSource(10))
	cut := 0
	for range 1000 {
		j := samples.Job(r.Intn, 1200)
		picks, draws := j.S.Picks, j.S.Draws
		alike(t, "12.10: zeros", j, with(j, picks, slices.Concat(draws, make([]int, 1+r.Intn(50)))))
		_, _, drawn := replayed(t, j)
		if drawn < len(draws) {
			cut++
			alike(t, "12.10: cut", j, with(j, picks, draws[:drawn]))
			other := slices.Clone(draws)
			for k := drawn; k < len(other); k++ {
				other[k] = int(r.Uint64())
			}
			alike(t, "12.10: other draws behind the last one", j, with(j, picks, append(other, -1, 5, 7)))
		}
		if j.Workers > 1 {
			same := slices.Clone(draws)
			for k, d := range same {
				same[k] = shifted(r, d, j.Workers-1)
			}
			alike(t, "12.10: the same victims", j, with(j, picks, same))
		}
	}
	if cut < 200 {
		t.Errorf("only %d runs left draws", cut)
	}
}

// 12.10: a draw that is drawn is seen.
func TestDrawsAreDrawn(t *testing.T) {
	// worker 2 looks for work once the root has spawned: into the deque of worker 0 with an even draw, else into that of worker 1
	picks := slices.Concat(rep(9, 0), rep(6, 2))
	for draw, steals := range map[int]int{0: 1, 1: 0, -1: 0, -2: 1, math.MaxInt: 0, math.MinInt: 1} {
		o := machine.Run(samples.One(), []int64{3}, 3, small, api.Script{Picks: picks, Draws: []int{draw}})
		if o.Steals != steals {
			t.Errorf("12.2: with the draw %d: %+v, want %d steals", draw, o, steals)
		}
	}
	// the draws are one list for all workers
	o := machine.Run(samples.One(), []int64{3}, 3, small, api.Script{Picks: slices.Concat(rep(9, 0), rep(1, 1), rep(6, 2)), Draws: []int{1, 0}})
	if o.Steals != 1 {
		t.Errorf("12.2: the second draw: %+v", o)
	}
}
