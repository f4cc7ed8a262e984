package samples

import (
	"plunder/api"
	"plunder/spy"
)

// Job draws a run that may be made: its limits suffice or do not, its picks, fewer than so many, take it to its end or do not.
func Job(draw Drawer, picks int) api.Job {
	j := api.Job{P: Draw(draw, draw(2) == 0), Workers: 1 + draw(5)}
	if draw(3) == 0 {
		j.P = []api.Program{Fib(), Sum(), Pair(), One(), Count()}[draw(5)]
	}
	if draw(20) == 0 {
		j.Workers = 1 + draw(api.MaxWorkers)
	}
	j.Args = Args(draw, j.P)
	j.Lim = limits(draw)
	j.S = api.Script{Picks: spy.Picks(draw, draw(picks), j.Workers), Draws: numbers(draw, draw(40))}
	return j
}

// limits draws narrow limits, and as often wide ones; few of them are the widest, which take long to lay.
func limits(draw Drawer) api.Limits {
	first := 1 + draw(3)
	switch wide := draw(32); {
	case wide == 0:
		return api.Limits{Frames: api.MaxFrames, First: first, Most: api.MaxDeque}
	case wide < 16:
		return api.Limits{Frames: 256, First: first, Most: 256}
	}
	return api.Limits{Frames: 1 + draw(1<<draw(8)), First: first, Most: first + draw(1<<draw(7))}
}

// numbers draws numbers of all sizes.
func numbers(draw Drawer, n int) []int {
	all := make([]int, n)
	for k := range all {
		all[k] = int(draw.number()) >> draw(64)
	}
	return all
}
