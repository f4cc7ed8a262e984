package park_test

import (
	"math"
	"slices"
	"sync"
	"sync/atomic"
	"testing"

	"plunder/api"
	"plunder/cells"
	"plunder/deque"
	"plunder/park"
	"plunder/spy"
)

const (
	least    = math.MinInt64
	greatest = math.MaxInt64
)

// Where things lie for the ways of three workers: the lot, and behind it of each worker's deque TOP and BOTTOM.
const (
	sleepers = 1
	done     = 2
	flag0    = 3
	flag1    = 4
	flag2    = 5
	top0     = 6
	top1     = 8
	top2     = 10
)

var (
	three = park.Lot{Base: 1, Workers: 3}
	trio  = []deque.Deque{{Base: top0, Most: 1}, {Base: top1, Most: 4096}, {Base: top2, Most: 7}}
)

// like is what the cells hold: the numbers told, by address, and in all other cells 0.
func like(cells map[int]int64) []int64 {
	now := make([]int64, 12)
	for addr, v := range cells {
		now[addr] = v
	}
	return now
}

func acts(a ...[]api.Act) []api.Act { return slices.Concat(a...) }

func one(a api.Act) []api.Act { return []api.Act{a} }

// The parts of the machines' ways, by the chapter's words.

func announced(flag int) []api.Act {
	return []api.Act{spy.Store(flag, 1), spy.Add(sleepers, 1), spy.Load(done)}
}

func looked(tops ...int) []api.Act {
	var a []api.Act
	for _, top := range tops {
		a = append(a, spy.Load(top), spy.Load(top+1))
	}
	return a
}

func lowered(flag int) []api.Act { return []api.Act{spy.CAS(flag, 1, 0), spy.Add(sleepers, -1)} }

func tried(flags ...int) []api.Act {
	var a []api.Act
	for _, f := range flags {
		a = append(a, spy.CAS(f, 1, 0))
	}
	return a
}

// 9.3: rests that go back of themselves.
func restWays() []spy.Way[park.Op] {
	rest := [3]park.Op{park.Rest(three, 0, trio), park.Rest(three, 1, trio), park.Rest(three, 2, trio)}
	halts := func(flag int) []api.Act { return acts(announced(flag), lowered(flag)) }
	return []spy.Way[park.Op]{
		spy.Case("done, worker 0", like(map[int]int64{done: 1}), rest[0], halts(flag0), api.Halt, 0),
		spy.Case("done, worker 2", like(map[int]int64{done: 1, top0 + 1: 1}), rest[2], halts(flag2), api.Halt, 0),
		spy.Case("the first has some", like(map[int]int64{top1 + 1: 1}), rest[0], acts(announced(flag0), looked(top1), lowered(flag0)), api.Again, 0),
		spy.Case("the last has some", like(map[int]int64{top2: -9, top2 + 1: -8}), rest[0], acts(announced(flag0), looked(top1, top2), lowered(flag0)), api.Again, 0),
		spy.Case("around from 1", like(map[int]int64{top0: 4, top0 + 1: 5}), rest[1], acts(announced(flag1), looked(top2, top0), lowered(flag1)), api.Again, 0),
		spy.Case("around from 2", like(map[int]int64{top0 + 1: greatest}), rest[2], acts(announced(flag2), looked(top0), lowered(flag2)), api.Again, 0),
		spy.Case("2 comes by 0 to 1", like(map[int]int64{top0: 3, top0 + 1: 3, top1 + 1: 1}), rest[2], acts(announced(flag2), looked(top0, top1), lowered(flag2)), api.Again, 0),
		spy.Case("DONE is not 1", like(map[int]int64{done: 2, top1 + 1: 1}), rest[0], acts(announced(flag0), looked(top1), lowered(flag0)), api.Again, 0),
		spy.Case("DONE is below 0", like(map[int]int64{done: -1, top1 + 1: 1}), rest[0], acts(announced(flag0), looked(top1), lowered(flag0)), api.Again, 0),
		spy.Case("an old flag", like(map[int]int64{flag0: 7, done: 1, sleepers: greatest}), rest[0], halts(flag0), api.Halt, 0),
	}
}

// at is a machine behind so many steps on cells that hold this.
func at(o park.Op, steps int, cells map[int]int64) park.Op {
	m := spy.Laid(like(cells)...)
	for range steps {
		o = park.Step(m, o)
	}
	return o
}

// 9.3: rests that others have woken in the meantime.
func wokenWays() []spy.Way[park.Op] {
	rest := park.Rest(three, 1, trio)
	halts := at(rest, 3, map[int]int64{done: 1})
	found := at(rest, 7, map[int]int64{top0 + 1: 1})
	parked := at(rest, 7, nil)
	load := one(spy.Load(flag1))
	return []spy.Way[park.Op]{
		spy.Case("woken on the way to halt", like(nil), halts, tried(flag1), api.Halt, 0),
		spy.Case("woken on the way back", like(nil), found, tried(flag1), api.Again, 0),
		spy.Case("a flag that is neither", like(map[int]int64{flag1: 2}), found, tried(flag1), api.Again, 0),
		spy.Case("not woken", like(map[int]int64{flag1: 1}), halts, lowered(flag1), api.Halt, 0),
		spy.Case("parked, and woken", like(map[int]int64{done: 1, top0 + 1: 1}), parked, load, api.Again, 0),
		spy.Case("parked, another flag is up", like(map[int]int64{flag0: 1, flag2: 1}), parked, load, api.Again, 0),
		spy.Case("parked, its flag is 2", like(map[int]int64{flag1: 2}), parked, load, api.Again, 0),
		spy.Case("parked, its flag is -1", like(map[int]int64{flag1: -1}), parked, load, api.Again, 0),
	}
}

// 9.4 to 9.6.
func otherWays() []spy.Way[park.Op] {
	loaded, over := one(spy.Load(sleepers)), one(spy.Store(done, 1))
	wake := func(self int) park.Op { return park.Wake(three, self) }
	finish := func(self int) park.Op { return park.Finish(three, self) }
	all := map[int]int64{sleepers: 3, flag0: 1, flag1: 1, flag2: 1}
	return []spy.Way[park.Op]{
		spy.Case("none sleeps", like(map[int]int64{flag1: 1}), wake(0), loaded, api.Nobody, 0),
		spy.Case("below 0", like(map[int]int64{sleepers: -1, flag1: 1}), wake(0), loaded, api.Nobody, 0),
		spy.Case("far below 0", like(map[int]int64{sleepers: least, flag1: 1}), wake(0), loaded, api.Nobody, 0),
		spy.Case("all are up, from 0", like(all), wake(0), acts(loaded, lowered(flag1)), api.Woke, 1),
		spy.Case("all are up, from 1", like(all), wake(1), acts(loaded, lowered(flag2)), api.Woke, 2),
		spy.Case("all are up, from 2", like(all), wake(2), acts(loaded, lowered(flag0)), api.Woke, 0),
		spy.Case("the second is up", like(map[int]int64{sleepers: greatest, flag0: 1}), wake(1), acts(loaded, tried(flag2), lowered(flag0)), api.Woke, 0),
		spy.Case("its own alone", like(map[int]int64{sleepers: 1, flag1: 1}), wake(1), acts(loaded, tried(flag2, flag0)), api.Nobody, 0),
		spy.Case("no flag is 1", like(map[int]int64{sleepers: 1, flag1: 2, flag2: -1}), wake(0), acts(loaded, tried(flag1, flag2)), api.Nobody, 0),
		spy.Case("peek: done", like(map[int]int64{done: 1}), park.Peek(three), one(spy.Load(done)), api.Halt, 0),
		spy.Case("peek: not done", like(nil), park.Peek(three), one(spy.Load(done)), api.Again, 0),
		spy.Case("peek: not 1", like(map[int]int64{done: 2}), park.Peek(three), one(spy.Load(done)), api.Again, 0),
		spy.Case("finish: none is up", like(nil), finish(1), acts(over, tried(flag2, flag0)), api.Ended, 0),
		spy.Case("finish: its own alone", like(map[int]int64{flag1: 1}), finish(1), acts(over, tried(flag2, flag0)), api.Ended, 0),
		spy.Case("finish: all are up", like(all), finish(0), acts(over, lowered(flag1), lowered(flag2)), api.Ended, 0),
		spy.Case("finish: the first is up", like(map[int]int64{flag0: 1, done: 1}), finish(2), acts(over, lowered(flag0), tried(flag1)), api.Ended, 0),
		spy.Case("finish: the last is up", like(map[int]int64{flag0: 3, flag1: 1, done: 5}), finish(2), acts(over, tried(flag0), lowered(flag1)), api.Ended, 0),
	}
}

// 9.3 to 9.6 and example 2: a lot of one worker.
func aloneWays() []spy.Way[park.Op] {
	l := park.Lot{Base: 1, Workers: 1}
	full := like(map[int]int64{sleepers: 1, flag0: 1, flag1: 1})
	rest := park.Rest(l, 0, trio[:1])
	return []spy.Way[park.Op]{
		spy.Case("alone: done", like(map[int]int64{done: 1}), rest, acts(announced(flag0), lowered(flag0)), api.Halt, 0),
		spy.Case("alone: woken", like(nil), at(rest, 3, nil), one(spy.Load(flag0)), api.Again, 0),
		spy.Case("alone: wake", full, park.Wake(l, 0), one(spy.Load(sleepers)), api.Nobody, 0),
		spy.Case("alone: finish", full, park.Finish(l, 0), one(spy.Store(done, 1)), api.Ended, 0),
	}
}

// R9, 9.7: lots and deques that lie where no cells are, in part or wholly.
func outsideWays() []spy.Way[park.Op] {
	at := func(base int) park.Lot { return park.Lot{Base: base, Workers: 3} }
	far := slices.Clone(trio)
	far[1].Base, far[2].Base = 11, greatest
	four := []int64{5, 0, 0, 0}
	return []spy.Way[park.Op]{
		spy.Case("SLEEPERS below all cells", four, park.Wake(at(-1), 0), one(spy.Load(-1)), api.Broken, 0),
		spy.Case("SLEEPERS behind all cells", four, park.Wake(at(4), 0), one(spy.Load(4)), api.Broken, 0),
		spy.Case("DONE wraps round", four, park.Peek(at(greatest)), one(spy.Load(least)), api.Broken, 0),
		spy.Case("DONE is the first cell", four, park.Finish(at(-1), 2), []api.Act{spy.Store(0, 1), spy.CAS(1, 1, 0), spy.CAS(2, 1, 0)}, api.Ended, 0),
		spy.Case("a flag behind all cells", four, park.Wake(at(0), 1), []api.Act{spy.Load(0), spy.CAS(4, 1, 0)}, api.Broken, 0),
		spy.Case("its flag wraps round", four, park.Rest(at(greatest-3), 2, trio), one(spy.Store(least, 1)), api.Broken, 0),
		spy.Case("its flag is there, SLEEPERS is not", four, park.Rest(at(-2), 1, trio), []api.Act{spy.Store(1, 1), spy.Add(-2, 1)}, api.Broken, 0),
		spy.Case("BOTTOM behind all cells", like(nil), park.Rest(three, 0, far), acts(announced(flag0), looked(11)), api.Broken, 0),
		spy.Case("TOP far behind", like(nil), park.Rest(three, 1, far), acts(announced(flag1), one(spy.Load(greatest))), api.Broken, 0),
	}
}

// 9.3 to 9.7, R7 to R10: the accesses in their order, the answers, what is refused; copies.
func TestWays(t *testing.T) {
	machine.Check(t, slices.Concat(restWays(), wokenWays(), otherWays(), aloneWays(), outsideWays()))
}

// 9.2: what is broken from the start.
func TestBrokenFromTheStart(t *testing.T) {
	broken := []park.Op{{}}
	for _, n := range noWorkers {
		l := park.Lot{Base: 0, Workers: n}
		broken = append(broken, park.Rest(l, 0, nil), park.Rest(l, 0, trio), park.Rest(l, 0, slices.Repeat(trio[:1], 65)), park.Wake(l, 0), park.Peek(l), park.Finish(l, 0))
	}
	for _, self := range []int{-1, 3, 64, least, greatest} {
		broken = append(broken, park.Rest(three, self, trio), park.Wake(three, self), park.Finish(three, self))
	}
	for _, deques := range [][]deque.Deque{nil, {}, trio[:1], trio[:2], slices.Concat(trio, trio[:1]), slices.Repeat(trio, 40)} {
		broken = append(broken, park.Rest(three, 1, deques))
	}
	var fine []park.Op
	for _, most := range []int{0, -1, 4097, least, greatest} {
		for spoilt := range trio {
			deques := slices.Clone(trio)
			deques[spoilt].Most = most
			for self := range trio {
				if o := park.Rest(three, self, deques); self == spoilt {
					fine = append(fine, o)
				} else {
					broken = append(broken, o)
				}
			}
		}
	}
	machine.Broken(t, broken...)

	most := park.Lot{Base: least, Workers: 64}
	fine = append(fine, park.Rest(most, 63, slices.Repeat(trio[:1], 64)), park.Wake(most, 63), park.Peek(most), park.Finish(most, 63), park.Peek(park.Lot{Workers: 1}), park.Rest(park.Lot{Workers: 1}, 0, make([]deque.Deque, 1)))
	machine.Running(t, fine...)
	for _, o := range slices.Concat(broken, fine) {
		if park.Parked(o) {
			t.Errorf("9.3: parked from the start: %v", o)
		}
	}
}

// 9.3: a rest's own deque is not looked at, whatever it is; a rest that is parked stays so and loads its flag alone.
func TestParked(t *testing.T) {
	for workers := 1; workers <= api.MaxWorkers; workers++ {
		for _, self := range []int{0, workers / 2, workers - 1} {
			m := arena(t, 1000)
			l, deques := lay(t, m, workers)
			calls.Through(m, deque.Push(deques[self], 7))
			s := spy.New(m)
			o := park.Rest(l, self, deques)
			for n := range 2*workers + 6 {
				if park.Parked(o) != (n >= 2*workers+1) {
					t.Fatalf("9.3: %d of %d workers: behind %d steps parked is %v", self, workers, n, park.Parked(o))
				}
				machine.Running(t, o)
				o = park.Step(s, o)
			}
			for _, a := range s.Asked[2*workers+1:] {
				if a != spy.Load(2+self) {
					t.Fatalf("9.3: a parked one asked for %v", a)
				}
			}
			m.Store(2+self, 0)
			if o = park.Step(m, o); park.Parked(o) || o != again() {
				t.Errorf("9.3: behind its waking: %v", o)
			}
		}
	}
}

// again is a rest that has ended with Again: all such are one.
func again() park.Op { return at(at(park.Rest(three, 0, trio), 7, nil), 1, nil) }

// 9.3: Parked is of rests alone, and of none that has ended or broken.
func TestNotParked(t *testing.T) {
	for _, w := range slices.Concat(restWays(), otherWays(), outsideWays()) {
		m := spy.Laid(w.Held...)
		o := w.Op
		for range len(w.Asks) + 2 {
			if park.Parked(o) {
				t.Errorf("9.3: %s: parked", w.Name)
			}
			o = park.Step(m, o)
		}
	}
	parked := at(park.Rest(three, 0, trio), 7, nil)
	if !park.Parked(parked) || park.Parked(park.Step(nil, parked)) || park.Parked(again()) {
		t.Errorf("9.3: parked, broken or ended")
	}
}

// 9.3: the list of deques is neither kept nor changed.
func TestListIsNotKept(t *testing.T) {
	deques := append(slices.Clone(trio), deque.Deque{Base: 77, Most: 77})
	kept := slices.Clone(deques)
	o := park.Rest(three, 1, deques[:3])
	if !slices.Equal(deques, kept) {
		t.Errorf("R3: the deques are %v", deques)
	}
	clear(deques)
	if o != park.Rest(three, 1, trio) {
		t.Errorf("9.3: the list is kept")
	}
}

// 9.13: the most accesses that each machine makes.
func TestFewSteps(t *testing.T) {
	for p := 1; p <= api.MaxWorkers; p++ {
		m := arena(t, 1000)
		l, deques := lay(t, m, p)
		s := spy.New(m)
		count := func(o park.Op) int {
			s.Asked = nil
			machine.Through(s, o)
			return len(s.Asked)
		}
		for i := range p {
			m.Store(2+i, 1)
		}
		if n := count(park.Finish(l, p-1)); n != 2*p-1 {
			t.Errorf("9.13: a finish of %d workers makes %d accesses", p, n)
		}
		m.Store(1, 0)
		m.Store(0, 1)
		m.Store(2+p-1, 1)
		if n := count(park.Wake(l, 0)); p > 1 && n != p+1 || p == 1 && n != 1 {
			t.Errorf("9.13: a wake of %d workers makes %d accesses", p, n)
		}
		m.Store(deques[0].Base+1, 1)
		if n := count(park.Rest(l, 1%p, deques)); p > 1 && n != 2*p+3 {
			t.Errorf("9.13: a rest of %d workers makes %d accesses", p, n)
		}
	}
}

// 9.3 to 9.6 with goroutines: all are woken in the end, each sleeper's flag is lowered just once, and what is counted comes to 0.
func TestGoroutines(t *testing.T) {
	for range 100 {
		m, _ := cells.NewShared(100)
		l, deques := lay(t, m, 5)
		var all sync.WaitGroup
		var halted atomic.Int64
		for i := 1; i < 5; i++ {
			all.Go(func() {
				for code := api.Again; code == api.Again; {
					o := park.Rest(l, i, deques)
					for code = api.Running; code == api.Running; code, _ = park.Answer(o) {
						o = park.Step(m, o)
					}
				}
				halted.Add(1)
			})
		}
		for range 20 {
			machine.Through(m, park.Wake(l, 0))
		}
		machine.Through(m, park.Finish(l, 0))
		all.Wait()
		for addr, want := range []int64{0, 1, 0, 0, 0, 0, 0} {
			if v, _ := m.Load(addr); v != want || halted.Load() != 4 {
				t.Fatalf("9.10, 9.12: cell %d holds %d, want %d; %d halted", addr, v, want, halted.Load())
			}
		}
	}
}
