package explore

import (
	"iter"
	"maps"

	"plunder/api"
)

// order is the dag that a trace's scripts have in common: an edge where two acts may not change places.
func order(s api.Scene, moves []move) api.Dag {
	d := api.Dag{N: len(moves)}
	for to, y := range moves {
		for from, x := range moves[:to] {
			if x.who == y.who || Depends(s, x.act, y.act) {
				d.Edges = append(d.Edges, api.Edge{From: from, To: to})
			}
		}
	}
	return d
}

// extensions tells in how many ways the nodes of a small dag can stand in a row. A set of nodes is a number, with a bit for each; only greater sets come of a set, so it is whole when its turn comes.
func extensions(d api.Dag) int {
	ahead := make([]int, d.N)
	for _, e := range d.Edges {
		ahead[e.To] |= 1 << e.From
	}
	ways := make([]int, 1<<d.N)
	ways[0] = 1
	for done, n := range ways {
		for node := range d.N {
			if done&(1<<node) == 0 && ahead[node]&^done == 0 {
				ways[done|1<<node] += n
			}
		}
	}
	return ways[len(ways)-1]
}

// walk is a place on the way down through a scene's scripts.
type walk struct {
	scene api.Scene
	whole int   // the length of a script
	done  []int // by actor: how many of its acts
	picks []int // the script so far
	yield func([]int) bool
}

// leastScripts hands on the least script of each trace, in rising order. A list that is handed on is to be read on the spot: the next one is laid over it.
func leastScripts(s api.Scene) iter.Seq[[]int] {
	return func(yield func([]int) bool) {
		w := walk{scene: s, whole: actsOf(s), done: make([]int, len(s.Lists)), yield: yield}
		w.down(map[int]api.Act{})
	}
}

// down goes on from a place at which some actors sleep, and tells false once no more are asked for. It writes into the map: who has been gone down from sleeps in what comes later, since a script that lets it act there is alike to one that was met.
func (w *walk) down(asleep map[int]api.Act) bool {
	if len(w.picks) == w.whole {
		return w.yield(w.picks)
	}
	for who, list := range w.scene.Lists {
		at := w.done[who]
		if _, sleeps := asleep[who]; sleeps || at == len(list) {
			continue
		}
		w.done[who]++
		w.picks = append(w.picks, who)
		more := w.down(w.stillAsleep(asleep, list[at]))
		w.picks = w.picks[:len(w.picks)-1]
		w.done[who]--
		if !more {
			return false
		}
		asleep[who] = list[at]
	}
	return true
}

// stillAsleep tells who sleeps on behind an act, and what each would do next.
func (w *walk) stillAsleep(asleep map[int]api.Act, act api.Act) map[int]api.Act {
	still := maps.Clone(asleep)
	for who, next := range still {
		if Depends(w.scene, act, next) {
			delete(still, who)
		}
	}
	return still
}
