package worker_test

import (
	"runtime"
	"sync"
	"testing"

	"plunder/api"
	"plunder/cells"
	"plunder/samples"
	"plunder/script"
	"plunder/serial"
	"plunder/worker"
)

// 11.7: each worker is played by a goroutine of its own. (To be run with -race, too.)
func TestGoroutines(t *testing.T) {
	for _, c := range []struct {
		p api.Program
		n int64
	}{{samples.Fib(), 9}, {samples.Sum(), 60}, {samples.Count(), 50}, {samples.One(), 4}, {samples.Fib(), 5}} {
		v, err := serial.Eval(c.p, []int64{c.n}, api.MaxFuel)
		if err != api.OK {
			t.Fatal(err)
		}
		for _, workers := range []int{1, 2, 3, 4, 8} {
			for round := range 6 {
				lim := limits(v.Tasks, 1+round, max(v.Tasks, 1+round))
				value, starts := live(t, job{c.p, []int64{c.n}, workers, lim})
				if value != v.V || starts != v.Tasks || t.Failed() {
					t.Fatalf("11.7: %d workers: %d with %d tasks, want %d with %d", workers, value, starts, v.V, v.Tasks)
				}
			}
		}
	}
}

// patience is how many steps a worker may make that never halts.
const patience = 1 << 23

// live tells the result, and how many frames were started.
func live(t *testing.T, j job) (int64, int) {
	t.Helper()
	m, _ := cells.NewShared(worker.Need(j.workers, j.lim))
	w, err := worker.New(m, j.p, j.args, j.workers, j.lim)
	if err != api.OK {
		t.Fatalf("11.1: %d", err)
	}
	starts := make([]int, j.workers)
	var all sync.WaitGroup
	for i := range j.workers {
		all.Go(func() {
			draws := script.Seeded(int64(i))
			for n := 0; !w.Halted(i); n++ {
				e, err := w.Step(i, draws)
				if e.Kind == api.EvStart {
					starts[i]++
				}
				if err != api.OK || e.Kind == api.EvFull || n > patience {
					t.Errorf("11.7: worker %d: %v, %d, %d steps", i, e, err, n)
					return
				}
				if n%16 == 0 {
					runtime.Gosched()
				}
			}
		})
	}
	all.Wait()
	value, ok := w.Result()
	if !ok {
		t.Errorf("11.7: no result")
	}
	sum := 0
	for _, n := range starts {
		sum += n
	}
	return value, sum
}
