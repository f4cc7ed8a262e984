package dag_test

import (
	"math/rand"
	"slices"

	"plunder/api"
	"plunder/ops"
)

// of is a dag whose edges are told as pairs of numbers.
func of(n int, ends ...int) api.Dag {
	d := api.Dag{N: n}
	for i := 0; i < len(ends); i += 2 {
		d.Edges = append(d.Edges, api.Edge{From: ends[i], To: ends[i+1]})
	}
	return d
}

func diamond() api.Dag { return of(4, 0, 1, 0, 2, 1, 3, 2, 3) }

// chain is a dag in which each node is ahead of the next one.
func chain(n int) api.Dag {
	d := api.Dag{N: n}
	for i := 1; i < n; i++ {
		d.Edges = append(d.Edges, api.Edge{From: i - 1, To: i})
	}
	return d
}

// drawDag draws a dag of up to most nodes, with few edges or many, and some of them twice.
func drawDag(r *rand.Rand, most int) api.Dag {
	d := api.Dag{N: r.Intn(most + 1)}
	if d.N < 2 {
		return d
	}
	for range r.Intn(d.N * (1 + r.Intn(4))) {
		to := 1 + r.Intn(d.N-1)
		from := r.Intn(to)
		if r.Intn(2) == 0 {
			from = max(0, to-1-r.Intn(3))
		}
		d.Edges = append(d.Edges, api.Edge{From: from, To: to})
		if r.Intn(8) == 0 {
			d.Edges = append(d.Edges, api.Edge{From: from, To: to})
		}
	}
	return d
}

// earliest goes over the edges, in no order that would help, until nothing rises any more.
func earliest(d api.Dag) []int {
	ranks := make([]int, d.N)
	for i := range ranks {
		ranks[i] = 1
	}
	for changed := true; changed; {
		changed = false
		for k := len(d.Edges) - 1; k >= 0; k-- {
			if e := d.Edges[k]; ranks[e.To] <= ranks[e.From] {
				ranks[e.To] = ranks[e.From] + 1
				changed = true
			}
		}
	}
	return ranks
}

// span is the greatest of the ranks.
func span(d api.Dag) int { return slices.Max(append(earliest(d), 0)) }

// done tells whether all that is ahead of a node is done at times below t.
func done(d api.Dag, times []int, node, t int) bool {
	for _, e := range d.Edges {
		if e.To == node && (times[e.From] == 0 || times[e.From] >= t) {
			return false
		}
	}
	return true
}

// greedy is 7.5, word by word; which of the nodes that are ready come first is told by their places in order.
func greedy(d api.Dag, processors int, order []int) []int {
	times := make([]int, d.N)
	for t, left := 1, d.N; left > 0; t++ {
		busy := 0
		for _, node := range order {
			if busy < processors && times[node] == 0 && done(d, times, node, t) {
				times[node] = t
				busy++
			}
		}
		left -= busy
	}
	return times
}

// upTo is the list 0, 1, .. n-1.
func upTo(n int) []int {
	l := make([]int, n)
	for i := range l {
		l[i] = i
	}
	return l
}

// judge is 7.6, word by word, for times that are not great.
func judge(d api.Dag, processors int, times []int) int {
	if !scheduled(d, processors, times) {
		return 0
	}
	length := slices.Max(append(slices.Clone(times), 0))
	for t := 1; t <= length; t++ {
		if count(times, t) == processors {
			continue
		}
		for node := range times {
			if times[node] > t && done(d, times, node, t) {
				return 1
			}
		}
	}
	return 2
}

// scheduled is what the chapter calls a schedule.
func scheduled(d api.Dag, processors int, times []int) bool {
	for _, t := range times {
		if t < 1 || count(times, t) > processors {
			return false
		}
	}
	for _, e := range d.Edges {
		if times[e.From] >= times[e.To] {
			return false
		}
	}
	return true
}

func count(times []int, t int) int {
	n := 0
	for _, x := range times {
		if x == t {
			n++
		}
	}
	return n
}

// player runs a valid program that ends, and notes what its instructions wait for.
type player struct {
	p     api.Program
	n     int
	edges []api.Edge
}

// play runs a task whose first instruction waits for the node from (-1: none), and tells its value and its last node.
func (m *player) play(f int, regs []int64, ped int64, from int) (int64, int) {
	regs = append(regs, make([]int64, 16)...)
	slots := make([]int64, 8)
	var ends []int
	spawned := int64(0)
	for at := 0; ; {
		i := m.p.Funcs[f].Code[at]
		at++
		node := m.n
		m.n++
		if from >= 0 {
			m.edges = append(m.edges, api.Edge{From: from, To: node})
		}
		from = node
		switch i.Kind {
		case api.IConst:
			regs[i.A] = i.K
		case api.IMove:
			regs[i.A] = regs[i.B]
		case api.IArith:
			regs[i.A], _ = ops.Apply(int(i.K), regs[i.B], regs[i.C])
		case api.IJump:
			at = i.A
		case api.IBranch:
			if regs[i.A] != 0 {
				at = i.B
			}
		case api.ISpawn:
			var args []int64
			for k := range m.p.Funcs[i.B].Params {
				args = append(args, regs[i.C+k])
			}
			spawned++
			value, end := m.play(i.B, args, ped*1000003+spawned, node)
			slots[i.A] = value
			ends = append(ends, end)
		case api.ISync:
			for _, end := range ends {
				m.edges = append(m.edges, api.Edge{From: end, To: node})
			}
			ends = nil
		case api.ILoad:
			regs[i.A] = slots[i.B]
		case api.IPed:
			regs[i.A] = ped
		case api.IReturn:
			return regs[i.A], node
		}
	}
}

// dagOf is 7.7, word by word.
func dagOf(p api.Program, args []int64) api.Dag {
	m := player{p: p}
	m.play(0, slices.Clone(args), 1, -1)
	slices.SortFunc(m.edges, func(a, b api.Edge) int {
		if a.To != b.To {
			return a.To - b.To
		}
		return a.From - b.From
	})
	return api.Dag{N: m.n, Edges: m.edges}
}
