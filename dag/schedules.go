package dag

import (
	"slices"

	"plunder/api"
)

// plan is a greedy schedule in the making.
type plan struct {
	lists [][]int // by node, those that it is ahead of
	left  []int   // by node, how many edges to it come from nodes that are not done
	ready heap[int]
	times []int
}

// greedyTimes plays the processors, time by time.
func greedyTimes(d api.Dag, processors int) []int {
	p := newPlan(d)
	for time := 1; !p.ready.empty(); time++ {
		// All of a time are taken ahead of what they free: that is to be done later.
		for _, node := range p.take(processors) {
			p.times[node] = time
			p.free(node)
		}
	}
	return p.times
}

// newPlan is a plan in which nothing is done.
func newPlan(d api.Dag) *plan {
	p := &plan{lists: followers(d), left: make([]int, d.N), times: make([]int, d.N)}
	p.ready.ahead = func(a, b int) bool { return a < b }
	for _, e := range d.Edges {
		p.left[e.To]++
	}
	for node := range d.N {
		if p.left[node] == 0 {
			p.ready.push(node)
		}
	}
	return p
}

// take takes the nodes of one time out of those that are ready.
func (p *plan) take(processors int) []int {
	var taken []int
	for range processors {
		if p.ready.empty() {
			break
		}
		taken = append(taken, p.ready.pop())
	}
	return taken
}

// free lets those go that have waited for no other node than this one.
func (p *plan) free(node int) {
	for _, next := range p.lists[node] {
		p.left[next]--
		if p.left[next] == 0 {
			p.ready.push(next)
		}
	}
}

// isSchedule tells whether the times are a schedule.
func isSchedule(d api.Dag, processors int, times []int) bool {
	done := map[int]int{}
	for node := range d.N {
		time := times[node]
		done[time]++
		if time < 1 || done[time] > processors {
			return false
		}
	}
	for _, e := range d.Edges {
		if times[e.From] >= times[e.To] {
			return false
		}
	}
	return true
}

// isGreedy tells whether a schedule is greedy: a node stands ready from one behind all that is ahead of it up to its own time, and every time it waits through must be full. Times may be far apart, so only the full ones are counted.
func isGreedy(d api.Dag, processors int, times []int) bool {
	full := fullTimes(processors, times)
	since := make([]int, d.N)
	for node := range d.N {
		since[node] = 1
	}
	for _, e := range d.Edges {
		since[e.To] = max(since[e.To], times[e.From]+1)
	}
	for node := range d.N {
		from, _ := slices.BinarySearch(full, since[node])
		to, _ := slices.BinarySearch(full, times[node])
		if to-from != times[node]-since[node] {
			return false
		}
	}
	return true
}

// fullTimes tells the times of a schedule at which no processor is idle, rising.
func fullTimes(processors int, times []int) []int {
	sorted := slices.Sorted(slices.Values(times))
	var full []int
	for at := range sorted {
		last := at + processors - 1
		if last < len(sorted) && sorted[last] == sorted[at] {
			full = append(full, sorted[at])
		}
	}
	return full
}
