package live

import (
	"sync"

	"plunder/api"
	"plunder/machine"
)

// Batch plays many scripted runs by a pool of goroutines, and tells the outcomes in the jobs' order.
func Batch(jobs []api.Job, workers int) ([]api.Outcome, api.Errno) {
	switch {
	case workers < 1 || workers > api.MaxWorkers:
		return nil, api.ErrWorkers
	case len(jobs) > api.MaxJobs:
		return nil, api.ErrLong
	}
	return playJobs(jobs, min(workers, len(jobs))), api.OK
}

// playJobs plays the jobs by so many goroutines. They take the jobs' numbers from a channel, so that a long job holds up one of them alone.
func playJobs(jobs []api.Job, pool int) []api.Outcome {
	outcomes := make([]api.Outcome, len(jobs))
	numbers := make(chan int)
	var all sync.WaitGroup
	all.Add(1)
	go func() {
		defer all.Done()
		for n := range jobs {
			numbers <- n
		}
		close(numbers)
	}()
	for range pool {
		all.Add(1)
		go func() {
			defer all.Done()
			for n := range numbers {
				j := jobs[n]
				outcomes[n] = machine.Run(j.P, j.Args, j.Workers, j.Lim, j.S)
			}
		}()
	}
	all.Wait()
	return outcomes
}
