package races_test

import (
	"math/rand"
	"slices"
	"strconv"
	"strings"

	"plunder/api"
)

// letters of the kinds, in their order; a read and a write have their place behind them.
const letters = "SRYrw"

// list reads deeds as the chapter writes them.
func list(text string) []api.Deed {
	var deeds []api.Deed
	for _, word := range strings.Fields(text) {
		d := api.Deed{Kind: strings.Index(letters, word[:1])}
		if len(word) > 1 {
			d.Loc, _ = strconv.ParseInt(word[1:], 10, 64)
		}
		deeds = append(deeds, d)
	}
	return deeds
}

// text writes deeds as the chapter does.
func text(deeds []api.Deed) string {
	var words []string
	for _, d := range deeds {
		word := letters[d.Kind : d.Kind+1]
		if d.Kind >= api.DRead {
			word += strconv.FormatInt(d.Loc, 10)
		}
		words = append(words, word)
	}
	return strings.Join(words, " ")
}

// model is the chapter's words, of deeds without a fault.
type model struct {
	deeds   []api.Deed
	tasks   []int      // by deed, its task: the number of the spawn that began it, or -1
	steps   [][]int    // by deed, those that a step leads to
	reaches [][]uint64 // by deed, a bit for each deed that it is ahead of
}

func newModel(deeds []api.Deed) *model {
	m := &model{deeds: deeds, steps: make([][]int, len(deeds)), reaches: make([][]uint64, len(deeds))}
	up := []int{-1}
	for at, d := range deeds {
		m.tasks = append(m.tasks, up[len(up)-1])
		switch d.Kind {
		case api.DSpawn:
			up = append(up, at)
		case api.DReturn:
			up = up[:len(up)-1]
		}
	}
	for at := len(deeds) - 1; at >= 0; at-- {
		m.lead(at)
		m.reaches[at] = make([]uint64, (len(deeds)+63)/64)
		for _, to := range m.steps[at] {
			m.reaches[at][to/64] |= 1 << (to % 64)
			for k, bits := range m.reaches[to] {
				m.reaches[at][k] |= bits
			}
		}
	}
	return m
}

// lead notes the steps from a deed.
func (m *model) lead(at int) {
	m.step(at, func(to int) bool { return m.tasks[to] == m.tasks[at] })
	switch m.deeds[at].Kind {
	case api.DSpawn:
		m.step(at, func(to int) bool { return m.tasks[to] == at })
	case api.DReturn:
		parent := m.tasks[m.tasks[at]]
		m.step(at, func(to int) bool {
			return m.tasks[to] == parent && (m.deeds[to].Kind == api.DSync || m.deeds[to].Kind == api.DReturn)
		})
	}
}

// step notes a step to the next deed that is as asked for, if there is one.
func (m *model) step(at int, is func(to int) bool) {
	for to := at + 1; to < len(m.deeds); to++ {
		if is(to) {
			m.steps[at] = append(m.steps[at], to)
			return
		}
	}
}

func (m *model) ahead(i, j int) bool { return m.reaches[i][j/64]>>(j%64)&1 == 1 }

func (m *model) parallel(i, j int) bool { return i != j && !m.ahead(i, j) && !m.ahead(j, i) }

// race tells whether two deeds are a race.
func (m *model) race(with, at int) bool {
	a, b := m.deeds[with], m.deeds[at]
	return a.Kind >= api.DRead && b.Kind >= api.DRead && (a.Kind == api.DWrite || b.Kind == api.DWrite) && a.Loc == b.Loc && m.parallel(with, at)
}

// first looks at all pairs.
func (m *model) first() (api.Race, bool) {
	for at := range m.deeds {
		for with := range at {
			if m.race(with, at) {
				return api.Race{At: at, With: with, Loc: m.deeds[at].Loc}, true
			}
		}
	}
	return api.Race{}, false
}

// racy looks at all pairs.
func (m *model) racy() []int64 {
	var locs []int64
	for at := range m.deeds {
		for with := range at {
			if m.race(with, at) {
				locs = append(locs, m.deeds[at].Loc)
				break
			}
		}
	}
	slices.Sort(locs)
	return slices.Compact(locs)
}

// ways is how often the kinds are drawn.
type ways struct {
	spawn, back, sync, read, write int
	places                         int
}

// drawWays draws tendencies: deep lists and flat ones, with many waits or few, many places or one.
func drawWays(r *rand.Rand) ways {
	return ways{spawn: 1 + r.Intn(6), back: 1 + r.Intn(6), sync: r.Intn(4), read: r.Intn(8), write: 1 + r.Intn(3), places: 1 + r.Intn(12)}
}

// drawDeeds draws n deeds without a fault.
func drawDeeds(r *rand.Rand, n int, w ways) []api.Deed {
	var deeds []api.Deed
	depth := 0
	for len(deeds) < n {
		back := w.back
		if depth == 0 {
			back = 0
		}
		d := api.Deed{Kind: pick(r, w.spawn, back, w.sync, w.read, w.write), Loc: int64(r.Intn(w.places))}
		switch d.Kind {
		case api.DSpawn:
			depth++
		case api.DReturn:
			depth--
		}
		deeds = append(deeds, d)
	}
	return deeds
}

// pick draws a place in a list of weights.
func pick(r *rand.Rand, weights ...int) int {
	sum := 0
	for _, w := range weights {
		sum += w
	}
	x := r.Intn(sum)
	for k, w := range weights {
		if x < w {
			return k
		}
		x -= w
	}
	panic("no weight")
}
