package frames_test

import (
	"plunder/api"
	"plunder/ops"
	"plunder/spy"
)

// model is 8.9 by the chapter's words: each actor is a routine that is written from its beginning to its end and waits for a pick ahead of each access.
type model struct {
	rounds []int
	cells  []int64
	who    int
	alive  []routine
	born   int
	run    api.JoinRun
	choice []int // how many could be picked, pick by pick
}

type routine struct {
	*spy.Routine
	number int
}

func modelled(rounds, picks []int) (api.JoinRun, []int) {
	f := 1
	for _, n := range rounds {
		f += n
	}
	m := &model{rounds: rounds, cells: make([]int64, 1+10*f)}
	for c := range f {
		m.cells[1+10*c] = 1
	}
	m.comes(m.parent)
	for _, x := range picks {
		if m.run.Done {
			break
		}
		m.choice = append(m.choice, len(m.alive))
		m.pick(ops.Mod(x, len(m.alive)))
		m.run.Steps++
	}
	for _, r := range m.alive {
		r.Stop()
	}
	for c := range f {
		m.run.Marks = append(m.run.Marks, m.cells[1+10*c+1])
	}
	return m.run, m.choice
}

func (m *model) pick(place int) {
	r := m.alive[place]
	m.who = r.number
	if !r.Pick() {
		m.alive = append(m.alive[:place:place], m.alive[place+1:]...)
	}
}

// comes lets a new actor come to be, and takes it to its first wait.
func (m *model) comes(plays func(wait func())) {
	number := m.born
	m.born++
	m.alive = append(m.alive, routine{Routine: spy.Begin(plays), number: number})
}

func (m *model) note(a api.Access) {
	a.Who, a.OK = m.who, true
	m.run.Log = append(m.run.Log, a)
}

func (m *model) add(addr int, d int64) int64 {
	m.cells[addr] += d
	m.note(api.Access{Kind: api.AcAdd, Addr: addr, A: d, B: m.cells[addr]})
	return m.cells[addr]
}

func (m *model) store(addr int, v int64) {
	m.cells[addr] = v
	m.note(api.Access{Kind: api.AcStore, Addr: addr, A: v})
}

func (m *model) load(addr int) int64 {
	m.note(api.Access{Kind: api.AcLoad, Addr: addr, A: m.cells[addr]})
	return m.cells[addr]
}

func (m *model) parent(wait func()) {
	wait()
	m.add(0, 1)
	wait()
	m.add(2, 1)
	m.from(0, wait)
}

// from plays the parent from a round's beginning on.
func (m *model) from(round int, wait func()) {
	for r := round; r < len(m.rounds); r++ {
		for j := range m.rounds[r] {
			wait()
			c := m.add(0, 1) - 1
			wait()
			m.add(1, 1)
			m.comes(func(wait func()) { m.child(int(c), r, j, wait) })
		}
		wait()
		if m.add(1, -1) != 0 {
			return
		}
		wait()
		m.store(1, 1)
		m.end(r, wait)
	}
	m.run.Done = true
}

func (m *model) child(c, r, j int, wait func()) {
	wait()
	m.add(1+10*c+1, 1)
	wait()
	m.store(3+j, int64(100*r+j))
	wait()
	if m.add(1, -1) != 0 {
		return
	}
	wait()
	m.store(1, 1)
	m.end(r, wait)
	m.from(r+1, wait)
}

func (m *model) end(r int, wait func()) {
	m.run.Holders = append(m.run.Holders, m.who)
	m.run.Reads = append(m.run.Reads, nil)
	for j := range m.rounds[r] {
		wait()
		v := m.load(3 + j)
		m.run.Reads[r] = append(m.run.Reads[r], v)
	}
}
