package live_test

import (
	"math"
	"math/rand"
	"reflect"
	"slices"
	"testing"

	"plunder/api"
	"plunder/live"
	"plunder/machine"
	"plunder/samples"
)

// single plays the jobs one after the other, without a pool.
func single(jobs []api.Job) []api.Outcome {
	var list []api.Outcome
	for _, j := range jobs {
		list = append(list, machine.Run(j.P, j.Args, j.Workers, j.Lim, j.S))
	}
	return list
}

// counting is a job whose only worker counts down from a number, with just as many picks as it needs.
func counting(n int) api.Job {
	return api.Job{P: samples.Count(), Args: []int64{int64(n)}, Workers: 1, Lim: limits(1, 1, 1), S: api.Script{Picks: make([]int, 2*n+4)}}
}

// 17.4: the chapter's examples 4 and 5, and what is refused ahead of all jobs.
func TestBatchRefusals(t *testing.T) {
	for _, c := range []struct {
		jobs, workers int
		err           api.Errno
	}{
		{0, 1, api.OK}, {0, 64, api.OK}, {3, 1, api.OK}, {api.MaxJobs, 1, api.OK}, {api.MaxJobs, 64, api.OK},
		{0, 0, api.ErrWorkers}, {3, 0, api.ErrWorkers}, {3, -1, api.ErrWorkers}, {3, 65, api.ErrWorkers}, {3, math.MinInt, api.ErrWorkers}, {3, math.MaxInt, api.ErrWorkers},
		{api.MaxJobs + 1, 0, api.ErrWorkers}, {api.MaxJobs + 1, 65, api.ErrWorkers},
		{api.MaxJobs + 1, 1, api.ErrLong}, {api.MaxJobs + 1, 64, api.ErrLong}, {1 << 16, 2, api.ErrLong},
	} {
		jobs := make([]api.Job, c.jobs)
		l, err := live.Batch(jobs, c.workers)
		if err != c.err || err != api.OK && len(l) > 0 {
			t.Errorf("17.4: %d jobs, %d goroutines: %v, %d, want %d", c.jobs, c.workers, l, err, c.err)
		}
		if err == api.OK && !slices.Equal(l, single(jobs)) {
			t.Errorf("17.4: %d empty jobs, %d goroutines: %v", c.jobs, c.workers, l)
		}
	}
	if l, err := live.Batch(nil, 1); len(l) > 0 || err != api.OK {
		t.Errorf("17.4: no jobs: %v, %d", l, err)
	}
}

// 17.4: a job that is malformed is told in its place, and the others beside it.
func TestBatchMalformed(t *testing.T) {
	done := api.Outcome{Kind: api.OutDone, Steps: 6, Frames: 1}
	jobs := []api.Job{counting(1), {}, counting(1), counting(1), counting(1), counting(1), counting(1), counting(1)}
	jobs[3].Args = nil
	jobs[4].Workers = 65
	jobs[5].Lim.Most = 0
	jobs[6].S.Picks = make([]int, api.MaxPicks+1)
	jobs[7].S.Picks = make([]int, 5)
	want := []api.Outcome{done, {Err: api.ErrProgram}, done, {Err: api.ErrArity}, {Err: api.ErrWorkers}, {Err: api.ErrLimits}, {Err: api.ErrLong}, {Kind: api.OutEnded, Steps: 5, Frames: 1}}
	for workers := range 8 {
		if l, err := live.Batch(jobs, 1+workers); !slices.Equal(l, want) || err != api.OK {
			t.Errorf("17.4: %d goroutines: %+v, %d, want %+v", 1+workers, l, err, want)
		}
	}
}

// 17.4: long jobs ahead of short ones are told ahead of them.
func TestBatchOrder(t *testing.T) {
	var jobs []api.Job
	for n := range 40 {
		jobs = append(jobs, counting(1+2000*((40-n)%10)))
	}
	want := single(jobs)
	for _, workers := range []int{1, 2, 3, 16, 39, 40, 64} {
		if l, err := live.Batch(jobs, workers); !slices.Equal(l, want) || err != api.OK {
			t.Errorf("17.4: %d goroutines: %+v, %d, want %+v", workers, l, err, want)
		}
	}
}

// 17.4: drawn jobs.
func TestBatchDrawn(t *testing.T) {
	r := rand.New(rand.NewSource(4))
	for _, processors := range []int{1, 8} {
		onProcessors(t, processors)
		for range 30 {
			jobs := make([]api.Job, r.Intn(30))
			for n := range jobs {
				jobs[n] = samples.Job(r.Intn, 800)
				if r.Intn(8) == 0 {
					jobs[n].Workers = 0
				}
			}
			want := single(jobs)
			workers := 1 + r.Intn(1<<r.Intn(7))
			if l, err := live.Batch(jobs, workers); !slices.Equal(l, want) || err != api.OK {
				t.Fatalf("17.4: %d goroutines, %+v: %+v, %d, want %+v", workers, jobs, l, err, want)
			}
		}
	}
}

// 17.4, 17.5: a pool has as many goroutines as are asked for, but no more than there are jobs, with one that hands the jobs out; none is there behind the answer.
func TestBatchPool(t *testing.T) {
	for _, c := range []struct{ jobs, workers, least, most, size int }{
		{1, 1, 0, 2, 300000}, {1, 64, 0, 2, 300000}, {5, 64, 0, 6, 200000}, // those that find no job left end at once
		{40, 3, 3, 4, 50000}, {api.MaxJobs, 16, 16, 17, 40000}, {api.MaxJobs, 64, 64, 65, 40000},
	} {
		jobs := slices.Repeat([]api.Job{counting(c.size)}, c.jobs)
		if n := most(t, c.least, func() { live.Batch(jobs, c.workers) }); n < c.least || n > c.most {
			t.Errorf("17.4: %d jobs, %d workers: %d goroutines, want %d to %d", c.jobs, c.workers, n, c.least, c.most)
		}
	}
}

// 17.5: what is handed in is as it was; what is answered is the caller's.
func TestBatchMemory(t *testing.T) {
	jobs := []api.Job{counting(9), counting(5), counting(7)}
	same := []api.Job{counting(9), counting(5), counting(7)}
	want := single(jobs)
	l, _ := live.Batch(jobs[:2], 2)
	clear(l)
	_ = append(l, api.Outcome{})
	if !reflect.DeepEqual(jobs, same) {
		t.Errorf("17.5: the jobs have become %+v", jobs)
	}
	if again, err := live.Batch(jobs, 2); !slices.Equal(again, want) || err != api.OK {
		t.Errorf("17.5: %+v, %d, want %+v", again, err, want)
	}
}
