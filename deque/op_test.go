package deque_test

import (
	"math"
	"math/rand"
	"slices"
	"testing"

	"plunder/api"
	"plunder/deque"
	"plunder/spy"
)

const (
	least    = math.MinInt64
	greatest = math.MaxInt64
)

type way = spy.Way[deque.Op]

var machine = spy.Machine[deque.Op]{Step: deque.Step, Answer: deque.Answer}

func at(most int) deque.Deque { return deque.Deque{Base: 0, Most: most} }

// 3.4: every way that a push can go.
func pushWays() []way {
	head := func(a int64) []api.Act { return []api.Act{spy.Load(1), spy.Load(0), spy.Load(2), spy.Load(int(a))} }
	return []way{
		spy.Case("it fits", []int64{4, 5, 3, 2, 70, 71}, deque.Push(at(9), 8), append(head(3), spy.Store(5, 8), spy.Store(1, 6)), api.Pushed, 0),
		spy.Case("it fits in a buffer elsewhere", []int64{4, 5, 6, 0, 0, 0, 3, 1, 2, 3}, deque.Push(at(9), 8), append(head(6), spy.Store(9, 8), spy.Store(1, 6)), api.Pushed, 0),
		spy.Case("full", []int64{4, 6, 3, 2, 70, 71}, deque.Push(at(2), 8), head(3), api.Full, 0),
		spy.Case("full, the capacity above the most", []int64{4, 6, 3, 2, 70, 71}, deque.Push(at(1), 8), head(3), api.Full, 0),
		spy.Case("not full, the capacity above the most", []int64{4, 5, 3, 2, 70, 71}, deque.Push(at(1), 8), append(head(3), spy.Store(5, 8), spy.Store(1, 6)), api.Pushed, 0),
		spy.Case("it grows to twice", []int64{5, 7, 3, 2, 70, 71}, deque.Push(at(9), 8), append(head(3), spy.Reserve(5), spy.Store(6, 4),
			spy.Load(5), spy.Store(8, 71), spy.Load(4), spy.Store(9, 70), spy.Store(2, 6), spy.Store(10, 8), spy.Store(1, 8)), api.Pushed, 0),
		spy.Case("it grows to the most", []int64{5, 7, 3, 2, 70, 71}, deque.Push(at(3), 8), append(head(3), spy.Reserve(4), spy.Store(6, 3),
			spy.Load(5), spy.Store(9, 71), spy.Load(4), spy.Store(7, 70), spy.Store(2, 6), spy.Store(8, 8), spy.Store(1, 8)), api.Pushed, 0),
		spy.Case("indices below 0", []int64{-3, -1, 3, 2, 70, 71}, deque.Push(at(4), 8), append(head(3), spy.Reserve(5), spy.Store(6, 4),
			spy.Load(5), spy.Store(8, 71), spy.Load(4), spy.Store(9, 70), spy.Store(2, 6), spy.Store(10, 8), spy.Store(1, 0)), api.Pushed, 0),
		spy.Case("a span that wraps round", []int64{greatest, least, 3, 1, 70}, deque.Push(at(2), 8), append(head(3), spy.Reserve(3), spy.Store(5, 2),
			spy.Load(4), spy.Store(7, 70), spy.Store(2, 5), spy.Store(6, 8), spy.Store(1, least+1)), api.Pushed, 0),
		spy.Case("a span that wraps round behind its first element", []int64{greatest - 1, least, 3, 1, 70}, deque.Push(at(2), 8), append(head(3), spy.Reserve(3), spy.Store(5, 2),
			spy.Load(4), spy.Store(6, 70), spy.Load(4), spy.Store(7, 70), spy.Store(2, 5), spy.Store(6, 8), spy.Store(1, least+1)), api.Pushed, 0),
		spy.Case("more than the capacity", []int64{0, 3, 3, 1, 70}, deque.Push(at(2), 8), append(head(3), spy.Reserve(3), spy.Store(5, 2),
			spy.Load(4), spy.Store(6, 70), spy.Load(4), spy.Store(7, 70), spy.Load(4), spy.Store(6, 70), spy.Store(2, 5), spy.Store(7, 8), spy.Store(1, 4)), api.Pushed, 0),
		spy.Case("TOP above BOTTOM", []int64{9, 2, 3, 1, 70}, deque.Push(at(2), 8), append(head(3), spy.Store(4, 8), spy.Store(1, 3)), api.Pushed, 0),
		spy.Case("BOTTOM wraps round", []int64{greatest, greatest, 3, 1, 70}, deque.Push(at(2), 8), append(head(3), spy.Store(4, 8), spy.Store(1, least)), api.Pushed, 0),
		spy.Case("no capacity", []int64{0, 0, 3, 0, 70}, deque.Push(at(2), 8), head(3), api.Broken, 0),
		spy.Case("a capacity below 0", []int64{0, 0, 3, least, 70}, deque.Push(at(2), 8), head(3), api.Broken, 0),
		spy.Case("a buffer below all cells", []int64{0, 0, -1, 1, 70}, deque.Push(at(2), 8), head(-1), api.Broken, 0),
		spy.Case("a great capacity", []int64{0, 7, 3, greatest, 70}, deque.Push(at(2), 8), append(head(3), spy.Store(11, 8)), api.Broken, 0),
		spy.Case("an address that wraps round", []int64{0, greatest - 1, 3, greatest, 70}, deque.Push(at(2), 8), append(head(3), spy.Store(least+2, 8)), api.Broken, 0),
	}
}

// 3.5: every way that a pop can go.
func popWays() []way {
	head := func(b int64) []api.Act { return []api.Act{spy.Load(1), spy.Load(2), spy.Store(1, b), spy.Load(0)} }
	return []way{
		spy.Case("none", []int64{4, 4, 3, 2, 70, 71}, deque.Pop(at(2)), append(head(3), spy.Store(1, 4)), api.Empty, 0),
		spy.Case("TOP far above", []int64{9, 4, 3, 2, 70, 71}, deque.Pop(at(2)), append(head(3), spy.Store(1, 9)), api.Empty, 0),
		spy.Case("two", []int64{4, 6, 3, 2, 70, 71}, deque.Pop(at(2)), append(head(5), spy.Load(3), spy.Load(5)), api.Got, 71),
		spy.Case("one", []int64{5, 6, 3, 2, 70, 71}, deque.Pop(at(2)), append(head(5), spy.Load(3), spy.Load(5), spy.CAS(0, 5, 6), spy.Store(1, 6)), api.Got, 71),
		spy.Case("an index below 0", []int64{-1, 0, 3, 2, 70, 71}, deque.Pop(at(2)), append(head(-1), spy.Load(3), spy.Load(5), spy.CAS(0, -1, 0), spy.Store(1, 0)), api.Got, 71),
		spy.Case("a buffer elsewhere", []int64{0, 9, 4, 0, 3, 1, 2, 3}, deque.Pop(at(2)), append(head(8), spy.Load(4), spy.Load(7)), api.Got, 3),
		spy.Case("BOTTOM wraps round", []int64{0, least, 3, 2, 70, 71}, deque.Pop(at(2)), append(head(greatest), spy.Load(3), spy.Load(5)), api.Got, 71),
		spy.Case("TOP wraps round", []int64{greatest, least, 3, 2, 70, 71}, deque.Pop(at(2)), append(head(greatest), spy.Load(3), spy.Load(5), spy.CAS(0, greatest, least), spy.Store(1, least)), api.Got, 71),
		spy.Case("no capacity", []int64{0, 1, 3, 0, 70}, deque.Pop(at(2)), append(head(0), spy.Load(3)), api.Broken, 0),
		spy.Case("no capacity, but none", []int64{0, 0, 3, 0, 70}, deque.Pop(at(2)), append(head(-1), spy.Store(1, 0)), api.Empty, 0),
		spy.Case("no buffer", []int64{0, 1, greatest, 0, 70}, deque.Pop(at(2)), append(head(0), spy.Load(greatest)), api.Broken, 0),
	}
}

// 3.6 and 3.7: every way that a steal and a look can go by themselves.
func thiefWays() []way {
	return []way{
		spy.Case("none", []int64{4, 4, 3, 2, 70, 71}, deque.Steal(at(2)), []api.Act{spy.Load(0), spy.Load(1)}, api.Empty, 0),
		spy.Case("TOP above", []int64{greatest, least, 3, 2, 70, 71}, deque.Steal(at(2)), []api.Act{spy.Load(0), spy.Load(1)}, api.Empty, 0),
		spy.Case("one", []int64{4, 5, 3, 2, 70, 71}, deque.Steal(at(2)), []api.Act{spy.Load(0), spy.Load(1), spy.Load(2), spy.Load(3), spy.Load(4), spy.CAS(0, 4, 5)}, api.Got, 70),
		spy.Case("two", []int64{-5, -3, 3, 2, 70, 71}, deque.Steal(at(2)), []api.Act{spy.Load(0), spy.Load(1), spy.Load(2), spy.Load(3), spy.Load(5), spy.CAS(0, -5, -4)}, api.Got, 71),
		spy.Case("no capacity", []int64{4, 5, 3, -1, 70, 71}, deque.Steal(at(2)), []api.Act{spy.Load(0), spy.Load(1), spy.Load(2), spy.Load(3)}, api.Broken, 0),
		spy.Case("the least capacity", []int64{4, 5, 3, 1, 70, 71}, deque.Steal(at(2)), []api.Act{spy.Load(0), spy.Load(1), spy.Load(2), spy.Load(3), spy.Load(4), spy.CAS(0, 4, 5)}, api.Got, 70),
		spy.Case("no buffer", []int64{4, 5, least, 2, 70, 71}, deque.Steal(at(2)), []api.Act{spy.Load(0), spy.Load(1), spy.Load(2), spy.Load(least)}, api.Broken, 0),
		spy.Case("none to be seen", []int64{4, 4, 3, 2}, deque.Look(at(2)), []api.Act{spy.Load(0), spy.Load(1)}, api.None, 0),
		spy.Case("one to be seen", []int64{4, 5, 3, 2}, deque.Look(at(2)), []api.Act{spy.Load(0), spy.Load(1)}, api.Some, 0),
		spy.Case("all to be seen", []int64{least, greatest, 3, 2}, deque.Look(at(2)), []api.Act{spy.Load(0), spy.Load(1)}, api.Some, 0),
		spy.Case("TOP above, to be seen", []int64{5, 4, 3, 2}, deque.Look(at(2)), []api.Act{spy.Load(0), spy.Load(1)}, api.None, 0),
	}
}

func allWays() []way { return slices.Concat(pushWays(), popWays(), thiefWays()) }

// 3.2 to 3.7: one access a step, in the chapter's order; what a refused access and a nil memory come to; the answer behind the last access, and nothing behind that; copies.
func TestWays(t *testing.T) { machine.Check(t, allWays()) }

// 3.3: what is broken from the start.
func TestBrokenFromTheStart(t *testing.T) {
	ops := []deque.Op{{}}
	for _, most := range []int{0, -1, 4097, math.MinInt, math.MaxInt} {
		ops = append(ops, deque.Push(at(most), 0), deque.Push(at(most), 8), deque.Pop(at(most)), deque.Steal(at(most)), deque.Look(at(most)))
	}
	machine.Broken(t, ops...)
	for _, most := range []int{1, 4096} {
		d := deque.Deque{Most: most}
		machine.Running(t, deque.Push(d, 0), deque.Pop(d), deque.Steal(d), deque.Look(d))
	}
}

// 3.3: a deque where no cells are.
func TestNoCells(t *testing.T) {
	for _, base := range []int{-1, -2, 6, 50, math.MinInt, math.MaxInt, math.MaxInt - 1, math.MaxInt - 2} {
		d := deque.Deque{Base: base, Most: 2}
		for i, o := range []deque.Op{deque.Push(d, 1), deque.Pop(d), deque.Steal(d), deque.Look(d)} {
			if code, v := machine.Through(spy.Laid(0, 0, 0, 0, 0, 0), o); code != api.Broken || v != 0 {
				t.Errorf("base %d, the machine %d: %d, %d", base, i, code, v)
			}
		}
	}
}

// 3.5 and 3.6: what a CAS that fails comes to, for each of the two.
func TestLostToAnother(t *testing.T) {
	for _, c := range []struct {
		op   deque.Op
		till int // the accesses ahead of the CAS
		code int
		left []int64
	}{
		{deque.Pop(at(2)), 6, api.Empty, []int64{9, 5, 3, 2, 70, 71}},
		{deque.Steal(at(2)), 5, api.Lost, []int64{9, 5, 3, 2, 70, 71}},
	} {
		m := spy.Laid(4, 5, 3, 2, 70, 71)
		o := c.op
		for range c.till {
			o = deque.Step(m, o)
		}
		m.Store(0, 9)
		if code, v := machine.Through(m, o); code != c.code || v != 0 || !slices.Equal(m.Cells(), c.left) {
			t.Errorf("answers %d, %d, the cells hold %v, want %d, %v", code, v, m.Cells(), c.code, c.left)
		}
	}
}

// 3.8: deques of one memory keep to the cells that they have reserved.
func TestTwoDeques(t *testing.T) {
	rng := rand.New(rand.NewSource(3))
	m := arena(t, 400)
	m.Reserve(2)
	m.Store(0, 1234)
	whose := []int{9, 9}
	s := spy.New(m)
	var ds [2]deque.Deque
	for i := range ds {
		ds[i] = lay(t, s, 1+i, 8+i)
		for len(whose) < m.Mark() {
			whose = append(whose, i)
		}
	}
	running := make([]deque.Op, 6) // three machines a deque: its owner's and two thieves'
	for n := range 20000 {
		who := rng.Intn(len(running))
		if n%1000 < 500 { // bursts of the owners, so that the deques grow
			who %= 2
		}
		side := who % 2
		if code, _ := deque.Answer(running[who]); code != api.Running {
			if code == api.Broken && running[who] != (deque.Op{}) {
				t.Fatalf("the step %d: a machine broke", n)
			}
			running[who] = anyCall(rng, ds[side], who < 2)
		}
		s.Asked = s.Asked[:0]
		running[who] = deque.Step(s, running[who])
		for len(whose) < m.Mark() {
			whose = append(whose, side)
		}
		if a := s.Asked[0]; len(s.Asked) != 1 || a.Kind != api.AcReserve && (a.Addr < 0 || a.Addr >= len(whose) || whose[a.Addr] != side) {
			t.Fatalf("the step %d: the deque %d asked for %v", n, side, s.Asked)
		}
		if code, _ := deque.Answer(running[who]); code == api.Broken {
			t.Fatalf("the step %d: the deque %d broke", n, side)
		}
	}
	if m.Mark() != 2+deque.Cells(1, 8)+deque.Cells(2, 9) {
		t.Errorf("the deques have grown to %d cells", m.Mark())
	}
}

func anyCall(rng *rand.Rand, d deque.Deque, owner bool) deque.Op {
	switch {
	case !owner && rng.Intn(4) == 0:
		return deque.Look(d)
	case !owner:
		return deque.Steal(d)
	case rng.Intn(3) > 0:
		return deque.Push(d, rng.Int63())
	}
	return deque.Pop(d)
}
