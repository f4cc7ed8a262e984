package machine_test

import (
	"math/rand"
	"testing"

	"plunder/api"
	"plunder/machine"
	"plunder/samples"
	"plunder/script"
	"plunder/serial"
)

// ending draws a program whose serial run comes to an end, with limits that just suffice for it. Most of them have several tasks.
func ending(r *rand.Rand) (api.Job, api.Value) {
	for {
		j := samples.Job(r.Intn, 1)
		if r.Intn(4) == 0 {
			j.P, j.Args = samples.Fib(), []int64{int64(3 + r.Intn(6))}
		}
		v, err := serial.Eval(j.P, j.Args, 2000)
		if err != api.OK || v.Tasks > 200 || v.Tasks < 3 && r.Intn(8) > 0 {
			continue
		}
		j.Lim = api.Limits{Frames: v.Tasks, First: 1 + r.Intn(min(v.Tasks, 3)), Most: v.Tasks}
		return j, v
	}
}

// checkDone: P4 and P1 of a run whose picks are fair and just enough.
func checkDone(t *testing.T, j api.Job, v api.Value, window int) api.Outcome {
	t.Helper()
	if n := machine.Bound(v.Work, v.Tasks, j.Workers, window); len(j.S.Picks) != n || !script.Fair(j.S.Picks, j.Workers, window) {
		t.Fatalf("%+v: %d picks for the window %d, want %d that are fair", j, len(j.S.Picks), window, n)
	}
	o, _ := trace(t, j)
	if o.Kind != api.OutDone || o.Value != v.V || o.Frames != v.Tasks {
		t.Fatalf("P4: %+v: %+v, serially %+v", j, o, v)
	}
	return o
}

// P4 and P7: the workers in turn, round by round.
func TestTurns(t *testing.T) {
	r := rand.New(rand.NewSource(4))
	for range 300 {
		j, v := ending(r)
		picks, _ := script.Turns(j.Workers, machine.Bound(v.Work, v.Tasks, j.Workers, j.Workers)/j.Workers)
		j.S = api.Script{Picks: picks, Draws: j.S.Draws}
		o := checkDone(t, j, v, j.Workers)
		if rounds := (o.Steps + j.Workers - 1) / j.Workers; o.Steps < v.Work || rounds < v.Span {
			t.Fatalf("P7: %+v: %d steps, %d rounds, serially %+v", j, o.Steps, rounds, v)
		}
	}
}

// P4: picks that look drawn.
func TestNoise(t *testing.T) {
	r := rand.New(rand.NewSource(5))
	for range 300 {
		j, v := ending(r)
		window := j.Workers + r.Intn(3*j.Workers)
		var err api.Errno
		if j.S, err = script.Noise(r.Int63(), j.Workers, window, machine.Bound(v.Work, v.Tasks, j.Workers, window)); err == api.OK {
			checkDone(t, j, v, window)
		}
	}
}

// foe picks and draws so that little comes of it, as far as its window lets it. It sees who holds a frame, and whose deque holds something.
type foe struct {
	*replay
	*rand.Rand
	window int
	upTo   []int // how many picks there were up to each worker's last one
	favour int   // whom it favours: see pool
	lowest bool  // of these, whether it takes the lowest one, or any
	blind  bool  // whether its draws are for a deque that holds nothing, where there is one
	thief  int
}

// Whom a foe favours.
const (
	idle = iota
	busy
	some
	favours
)

func newFoe(t *testing.T, r *rand.Rand, j api.Job, window int) *foe {
	f := &foe{replay: begin(t, j), Rand: r, window: window, upTo: make([]int, j.Workers), favour: r.Intn(favours), lowest: r.Intn(2) == 0, blind: r.Intn(2) == 0}
	f.replay.rand = f
	return f
}

// Draw draws for the thief.
func (f *foe) Draw() int {
	others := f.job.Workers - 1
	draw := f.Intn(others)
	for k := range others {
		if d := (draw + k) % others; f.blind && f.holds((f.thief+1+d)%f.job.Workers) < 1 {
			draw = d
			break
		}
	}
	f.job.S.Draws = append(f.job.S.Draws, draw)
	return draw
}

// pool is whom it may pick: those that it favours, or all, if there are none.
func (f *foe) pool() []int {
	var pool, all []int
	for i := range f.job.Workers {
		all = append(all, i)
		if f.favour == some && f.Intn(2) == 0 || f.favour != some && (f.world.Holds(i) < 0) == (f.favour == idle) {
			pool = append(pool, i)
		}
	}
	if len(pool) == 0 {
		return all
	}
	return pool
}

// pick is whom it picks: whoever has waited longest, where it must, so that the picks stay fair.
func (f *foe) pick() int {
	late, made := 0, len(f.job.S.Picks)
	for i := range f.upTo {
		if f.upTo[i] < f.upTo[late] {
			late = i
		}
	}
	if made-f.upTo[late] >= f.window-f.job.Workers {
		return late
	}
	pool := f.pool()
	if f.lowest {
		return pool[0]
	}
	return pool[f.Intn(len(pool))]
}

// against is the job with the script of a foe, as long as the bound.
func against(t *testing.T, r *rand.Rand, j api.Job, v api.Value, window int) api.Job {
	j.S = api.Script{}
	f := newFoe(t, r, j, window)
	for range machine.Bound(v.Work, v.Tasks, j.Workers, window) {
		i := f.pick()
		f.job.S.Picks = append(f.job.S.Picks, i)
		f.upTo[i] = len(f.job.S.Picks)
		f.thief = i
		f.world.Step(i, f)
	}
	return f.job
}

// P4: picks and draws that are made against the run.
func TestFoes(t *testing.T) {
	r := rand.New(rand.NewSource(7))
	for range 400 {
		j, v := ending(r)
		window := j.Workers + r.Intn(2+2*j.Workers)
		if machine.Bound(v.Work, v.Tasks, j.Workers, window) > 100000 {
			continue
		}
		checkDone(t, against(t, r, j, v, window), v, window)
	}
}

// P4: most of the picks are one worker's.
func TestStarved(t *testing.T) {
	v, _ := serial.Eval(samples.Fib(), []int64{6}, 10000)
	lim := api.Limits{Frames: v.Tasks, First: 1, Most: v.Tasks}
	for workers := 2; workers <= 5; workers++ {
		for who := range workers {
			const window = 20
			round := rep(window-workers, who)
			for i := range workers {
				round = append(round, i)
			}
			j := job(samples.Fib(), []int64{6}, workers, lim, rep(machine.Bound(v.Work, v.Tasks, workers, window)/window, round...))
			checkDone(t, j, v, window)
		}
	}
}
