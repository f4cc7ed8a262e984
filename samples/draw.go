package samples

import (
	"math"
	"slices"

	"plunder/api"
	"plunder/asm"
)

// Slots on the way through a function that is drawn.
const (
	empty = iota
	pending
	full
)

// Drawer tells a number from 0 to n - 1.
type Drawer func(n int) int

// number draws any number.
func (d Drawer) number() int64 {
	v := int64(0)
	for range 8 {
		v = v<<8 | int64(d(256))
	}
	return v
}

// maker draws functions whose slots are used as they may be.
type maker struct {
	draw   Drawer
	params []int // of all functions
	peds   bool  // whether there may be an IPed
	f      api.Func
	state  []int // of each slot
}

// Draw draws a valid program of one to four functions, many of whose runs end; with an IPed in it or surely without one.
func Draw(draw Drawer, peds bool) api.Program {
	m := maker{draw: draw, params: make([]int, 1+draw(4)), peds: peds}
	for f := range m.params {
		m.params[f] = draw(4)
	}
	p := api.Program{}
	for _, params := range m.params {
		p.Funcs = append(p.Funcs, m.function(params))
	}
	return p
}

// Args draws arguments of a program's entry; the first one is small, as programs count it down.
func Args(draw Drawer, p api.Program) []int64 {
	args := make([]int64, p.Funcs[0].Params)
	for k := range args {
		args[k] = int64(draw(6) * (1 + draw(2)*k*draw(1<<40)))
	}
	return args
}

// function draws a function; one with a parameter counts it down to 0 and ends there.
func (m *maker) function(params int) api.Func {
	regs := max(params, 2) + m.draw(3)
	m.f = api.Func{Params: params, Regs: regs, Slots: m.draw(4)}
	m.state = make([]int, m.f.Slots)
	if params > 0 {
		m.add(asm.Branch(0, 2), asm.Return(0), asm.Const(regs-1, 1), asm.Arith(0, 0, api.Sub, regs-1))
	}
	for range m.draw(12) {
		m.piece()
	}
	if m.pick(pending) >= 0 {
		m.sync()
	}
	m.add(asm.Return(m.reg()))
	return m.f
}

// piece draws a few instructions.
func (m *maker) piece() {
	switch m.draw(10) {
	case 0, 1, 2:
		m.spawn(m.pick(empty, full))
	case 3:
		m.sync()
	case 4, 5:
		if slot := m.pick(full); slot >= 0 {
			m.add(asm.Load(m.reg(), slot))
		}
	case 6: // over one, or not
		m.add(asm.Branch(m.reg(), len(m.f.Code)+2), m.plain())
	case 7: // over one that is never come to
		m.add(asm.Jump(len(m.f.Code)+2), m.plain())
	case 8:
		m.loop()
	default:
		m.add(m.plain())
	}
}

// loop draws a loop with a child in each round.
func (m *maker) loop() {
	slot := m.pick(empty, full)
	if slot < 0 || m.pick(pending) >= 0 {
		return
	}
	top := len(m.f.Code)
	m.spawn(slot)
	m.sync()
	m.add(m.plain(), asm.Branch(m.reg(), top))
}

// spawn draws a spawn of a function that finds enough registers.
func (m *maker) spawn(slot int) {
	f := m.draw(len(m.params))
	if slot < 0 || m.params[f] > m.f.Regs {
		return
	}
	first := []int{math.MinInt, -1, 99, math.MaxInt}[m.draw(4)]
	if m.params[f] > 0 {
		first = m.draw(m.f.Regs-m.params[f]+1) * m.draw(2)
	}
	m.add(asm.Spawn(slot, f, first))
	m.state[slot] = pending
}

func (m *maker) sync() {
	m.add(asm.Sync())
	for slot := range m.state {
		if m.state[slot] == pending {
			m.state[slot] = full
		}
	}
}

// plain draws an instruction that computes.
func (m *maker) plain() api.Instr {
	switch m.draw(8) {
	case 0:
		return asm.Const(m.reg(), int64(m.draw(7))-3)
	case 1:
		return asm.Const(m.reg(), m.draw.number())
	case 2:
		return asm.Move(m.reg(), m.reg())
	case 3, 4:
		if m.peds {
			return asm.Ped(m.reg())
		}
	}
	return asm.Arith(m.reg(), m.reg(), m.draw(api.NumOps), m.reg())
}

// pick draws a slot that is in one of the states, or tells -1.
func (m *maker) pick(states ...int) int {
	var fit []int
	for slot, state := range m.state {
		if slices.Contains(states, state) {
			fit = append(fit, slot)
		}
	}
	if len(fit) == 0 {
		return -1
	}
	return fit[m.draw(len(fit))]
}

func (m *maker) add(code ...api.Instr) { m.f.Code = append(m.f.Code, code...) }

func (m *maker) reg() int { return m.draw(m.f.Regs) }
