package dag

import (
	"slices"

	"plunder/api"
)

// followers tells for each node those that it is ahead of by an edge, as often as the edge stands there.
func followers(d api.Dag) [][]int {
	lists := make([][]int, d.N)
	for _, e := range d.Edges {
		lists[e.From] = append(lists[e.From], e.To)
	}
	return lists
}

// longest tells for each node how many nodes the longest path to it has, and the last one ahead of it on such a path (-1: none). All that is ahead of a node has a lower number, so its own place is settled when its turn comes.
func longest(d api.Dag) (ranks, before []int) {
	ranks, before = make([]int, d.N), make([]int, d.N)
	for node := range d.N {
		ranks[node], before[node] = 1, -1
	}
	lists := followers(d)
	for node := range d.N {
		for _, next := range lists[node] {
			if ranks[node] >= ranks[next] {
				ranks[next], before[next] = ranks[node]+1, node
			}
		}
	}
	return ranks, before
}

// longestPath goes back from a node that the longest path of all ends at.
func longestPath(d api.Dag) []int {
	if d.N == 0 {
		return nil
	}
	ranks, before := longest(d)
	last := slices.Index(ranks, slices.Max(ranks))
	path := make([]int, 0, ranks[last])
	for node := last; node >= 0; node = before[node] {
		path = append(path, node)
	}
	slices.Reverse(path)
	return path
}
