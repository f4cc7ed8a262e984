package deque_test

import (
	"math"
	"math/rand"
	"slices"
	"testing"

	"plunder/api"
	"plunder/cells"
	"plunder/deque"
)

// laid is an arena whose cells hold what is told.
func laid(t *testing.T, held ...int64) *cells.Arena {
	t.Helper()
	m := arena(t, 100)
	m.Reserve(len(held))
	for i, v := range held {
		m.Store(i, v)
	}
	return m
}

const (
	least    = math.MinInt64
	greatest = math.MaxInt64
)

// wayCase: what the cells hold, a call on the deque at 0 with room for most, what it asks for and answers.
type wayCase struct {
	name string
	held []int64
	op   deque.Op
	asks []api.Act
	code int
	v    int64
}

func at(most int) deque.Deque { return deque.Deque{Base: 0, Most: most} }

// 3.4: every way that a push can go.
func pushWays() []wayCase {
	head := func(a int64) []api.Act { return []api.Act{loads(1), loads(0), loads(2), loads(int(a))} }
	return []wayCase{
		{"it fits", []int64{4, 5, 3, 2, 70, 71}, deque.Push(at(9), 8), append(head(3), stores(5, 8), stores(1, 6)), api.Pushed, 0},
		{"it fits in a buffer elsewhere", []int64{4, 5, 6, 0, 0, 0, 3, 1, 2, 3}, deque.Push(at(9), 8), append(head(6), stores(9, 8), stores(1, 6)), api.Pushed, 0},
		{"full", []int64{4, 6, 3, 2, 70, 71}, deque.Push(at(2), 8), head(3), api.Full, 0},
		{"full, the capacity above the most", []int64{4, 6, 3, 2, 70, 71}, deque.Push(at(1), 8), head(3), api.Full, 0},
		{"not full, the capacity above the most", []int64{4, 5, 3, 2, 70, 71}, deque.Push(at(1), 8), append(head(3), stores(5, 8), stores(1, 6)), api.Pushed, 0},
		{"it grows to twice", []int64{5, 7, 3, 2, 70, 71}, deque.Push(at(9), 8), append(head(3), reserves(5), stores(6, 4),
			loads(5), stores(8, 71), loads(4), stores(9, 70), stores(2, 6), stores(10, 8), stores(1, 8)), api.Pushed, 0},
		{"it grows to the most", []int64{5, 7, 3, 2, 70, 71}, deque.Push(at(3), 8), append(head(3), reserves(4), stores(6, 3),
			loads(5), stores(9, 71), loads(4), stores(7, 70), stores(2, 6), stores(8, 8), stores(1, 8)), api.Pushed, 0},
		{"indices below 0", []int64{-3, -1, 3, 2, 70, 71}, deque.Push(at(4), 8), append(head(3), reserves(5), stores(6, 4),
			loads(5), stores(8, 71), loads(4), stores(9, 70), stores(2, 6), stores(10, 8), stores(1, 0)), api.Pushed, 0},
		{"a span that wraps round", []int64{greatest, least, 3, 1, 70}, deque.Push(at(2), 8), append(head(3), reserves(3), stores(5, 2),
			loads(4), stores(7, 70), stores(2, 5), stores(6, 8), stores(1, least+1)), api.Pushed, 0},
		{"a span that wraps round behind its first element", []int64{greatest - 1, least, 3, 1, 70}, deque.Push(at(2), 8), append(head(3), reserves(3), stores(5, 2),
			loads(4), stores(6, 70), loads(4), stores(7, 70), stores(2, 5), stores(6, 8), stores(1, least+1)), api.Pushed, 0},
		{"more than the capacity", []int64{0, 3, 3, 1, 70}, deque.Push(at(2), 8), append(head(3), reserves(3), stores(5, 2),
			loads(4), stores(6, 70), loads(4), stores(7, 70), loads(4), stores(6, 70), stores(2, 5), stores(7, 8), stores(1, 4)), api.Pushed, 0},
		{"TOP above BOTTOM", []int64{9, 2, 3, 1, 70}, deque.Push(at(2), 8), append(head(3), stores(4, 8), stores(1, 3)), api.Pushed, 0},
		{"BOTTOM wraps round", []int64{greatest, greatest, 3, 1, 70}, deque.Push(at(2), 8), append(head(3), stores(4, 8), stores(1, least)), api.Pushed, 0},
		{"no capacity", []int64{0, 0, 3, 0, 70}, deque.Push(at(2), 8), head(3), api.Broken, 0},
		{"a capacity below 0", []int64{0, 0, 3, least, 70}, deque.Push(at(2), 8), head(3), api.Broken, 0},
		{"a buffer below all cells", []int64{0, 0, -1, 1, 70}, deque.Push(at(2), 8), head(-1), api.Broken, 0},
		{"a great capacity", []int64{0, 7, 3, greatest, 70}, deque.Push(at(2), 8), append(head(3), stores(11, 8)), api.Broken, 0},
		{"an address that wraps round", []int64{0, greatest - 1, 3, greatest, 70}, deque.Push(at(2), 8), append(head(3), stores(least+2, 8)), api.Broken, 0},
	}
}

// 3.5: every way that a pop can go.
func popWays() []wayCase {
	head := func(b int64) []api.Act { return []api.Act{loads(1), loads(2), stores(1, b), loads(0)} }
	return []wayCase{
		{"none", []int64{4, 4, 3, 2, 70, 71}, deque.Pop(at(2)), append(head(3), stores(1, 4)), api.Empty, 0},
		{"TOP far above", []int64{9, 4, 3, 2, 70, 71}, deque.Pop(at(2)), append(head(3), stores(1, 9)), api.Empty, 0},
		{"two", []int64{4, 6, 3, 2, 70, 71}, deque.Pop(at(2)), append(head(5), loads(3), loads(5)), api.Got, 71},
		{"one", []int64{5, 6, 3, 2, 70, 71}, deque.Pop(at(2)), append(head(5), loads(3), loads(5), swaps(0, 5, 6), stores(1, 6)), api.Got, 71},
		{"an index below 0", []int64{-1, 0, 3, 2, 70, 71}, deque.Pop(at(2)), append(head(-1), loads(3), loads(5), swaps(0, -1, 0), stores(1, 0)), api.Got, 71},
		{"a buffer elsewhere", []int64{0, 9, 4, 0, 3, 1, 2, 3}, deque.Pop(at(2)), append(head(8), loads(4), loads(7)), api.Got, 3},
		{"BOTTOM wraps round", []int64{0, least, 3, 2, 70, 71}, deque.Pop(at(2)), append(head(greatest), loads(3), loads(5)), api.Got, 71},
		{"TOP wraps round", []int64{greatest, least, 3, 2, 70, 71}, deque.Pop(at(2)), append(head(greatest), loads(3), loads(5), swaps(0, greatest, least), stores(1, least)), api.Got, 71},
		{"no capacity", []int64{0, 1, 3, 0, 70}, deque.Pop(at(2)), append(head(0), loads(3)), api.Broken, 0},
		{"no capacity, but none", []int64{0, 0, 3, 0, 70}, deque.Pop(at(2)), append(head(-1), stores(1, 0)), api.Empty, 0},
		{"no buffer", []int64{0, 1, greatest, 0, 70}, deque.Pop(at(2)), append(head(0), loads(greatest)), api.Broken, 0},
	}
}

// 3.6 and 3.7: every way that a steal and a look can go by themselves.
func thiefWays() []wayCase {
	return []wayCase{
		{"none", []int64{4, 4, 3, 2, 70, 71}, deque.Steal(at(2)), []api.Act{loads(0), loads(1)}, api.Empty, 0},
		{"TOP above", []int64{greatest, least, 3, 2, 70, 71}, deque.Steal(at(2)), []api.Act{loads(0), loads(1)}, api.Empty, 0},
		{"one", []int64{4, 5, 3, 2, 70, 71}, deque.Steal(at(2)), []api.Act{loads(0), loads(1), loads(2), loads(3), loads(4), swaps(0, 4, 5)}, api.Got, 70},
		{"two", []int64{-5, -3, 3, 2, 70, 71}, deque.Steal(at(2)), []api.Act{loads(0), loads(1), loads(2), loads(3), loads(5), swaps(0, -5, -4)}, api.Got, 71},
		{"no capacity", []int64{4, 5, 3, -1, 70, 71}, deque.Steal(at(2)), []api.Act{loads(0), loads(1), loads(2), loads(3)}, api.Broken, 0},
		{"the least capacity", []int64{4, 5, 3, 1, 70, 71}, deque.Steal(at(2)), []api.Act{loads(0), loads(1), loads(2), loads(3), loads(4), swaps(0, 4, 5)}, api.Got, 70},
		{"no buffer", []int64{4, 5, least, 2, 70, 71}, deque.Steal(at(2)), []api.Act{loads(0), loads(1), loads(2), loads(least)}, api.Broken, 0},
		{"none to be seen", []int64{4, 4, 3, 2}, deque.Look(at(2)), []api.Act{loads(0), loads(1)}, api.None, 0},
		{"one to be seen", []int64{4, 5, 3, 2}, deque.Look(at(2)), []api.Act{loads(0), loads(1)}, api.Some, 0},
		{"all to be seen", []int64{least, greatest, 3, 2}, deque.Look(at(2)), []api.Act{loads(0), loads(1)}, api.Some, 0},
		{"TOP above, to be seen", []int64{5, 4, 3, 2}, deque.Look(at(2)), []api.Act{loads(0), loads(1)}, api.None, 0},
	}
}

func allWays() []wayCase { return slices.Concat(pushWays(), popWays(), thiefWays()) }

// 3.2 and 3.4 to 3.7: one access a step, in the chapter's order; the answer behind the last; nothing behind that.
func TestWays(t *testing.T) {
	for _, c := range allWays() {
		s := newSpy(laid(t, c.held...))
		o := c.op
		for i, want := range c.asks {
			if code, v := deque.Answer(o); code != api.Running || v != 0 {
				t.Fatalf("%s: ahead of the access %d it answers %d, %d", c.name, i, code, v)
			}
			o = deque.Step(s, o)
			if len(s.asked) != i+1 || s.asked[i] != want {
				t.Fatalf("%s: the step %d: asked for %v, want %v", c.name, i, s.asked, c.asks)
			}
		}
		for range 3 {
			if code, v := deque.Answer(o); code != c.code || v != c.v || len(s.asked) != len(c.asks) {
				t.Errorf("%s: answers %d, %d, want %d, %d; asked for %v", c.name, code, v, c.code, c.v, s.asked)
			}
			if deque.Step(s, o) != o || deque.Step(nil, o) != o {
				t.Errorf("%s: a step behind the end gives another machine", c.name)
			}
		}
	}
}

// 3.3: whichever access is refused, the machine is broken, and what was stored stays.
func TestRefusedAccesses(t *testing.T) {
	for _, c := range allWays() {
		for n := range c.asks {
			m, twin := laid(t, c.held...), laid(t, c.held...)
			s := newSpy(m)
			s.refuse = n
			o, o2 := c.op, c.op
			for range n {
				o, o2 = deque.Step(s, o), deque.Step(twin, o2)
			}
			o = deque.Step(s, o)
			if code, v := deque.Answer(o); code != api.Broken || v != 0 || len(s.asked) != n+1 {
				t.Errorf("%s: the access %d refused: answers %d, %d, asked for %v", c.name, n, code, v, s.asked)
			}
			if deque.Step(m, o) != o || deque.Step(nil, o) != o || len(s.asked) != n+1 {
				t.Errorf("%s: the access %d refused: it goes on", c.name, n)
			}
			if !slices.Equal(m.Cells(), twin.Cells()) {
				t.Errorf("%s: the access %d refused: the cells hold %v, want %v", c.name, n, m.Cells(), twin.Cells())
			}
		}
	}
}

// 3.3: a nil memory breaks a running machine at any point.
func TestNilMemory(t *testing.T) {
	for _, c := range allWays() {
		m := laid(t, c.held...)
		o := c.op
		for i := range c.asks {
			if code, v := deque.Answer(deque.Step(nil, o)); code != api.Broken || v != 0 {
				t.Errorf("%s: a nil memory at the step %d: %d, %d", c.name, i, code, v)
			}
			o = deque.Step(m, o)
		}
	}
	var none *cells.Arena
	if code, v := deque.Answer(deque.Step(none, deque.Look(at(1)))); code != api.Broken || v != 0 {
		t.Errorf("a nil arena: %d, %d", code, v)
	}
	var shared *cells.Shared
	if code, v := deque.Answer(deque.Step(shared, deque.Pop(at(1)))); code != api.Broken || v != 0 {
		t.Errorf("nil shared cells: %d, %d", code, v)
	}
}

// 3.3: what is broken from the start.
func TestBrokenFromTheStart(t *testing.T) {
	ops := []deque.Op{{}}
	for _, most := range []int{0, -1, 4097, math.MinInt, math.MaxInt} {
		ops = append(ops, deque.Push(at(most), 0), deque.Push(at(most), 8), deque.Pop(at(most)), deque.Steal(at(most)), deque.Look(at(most)))
	}
	for i, o := range ops {
		s := newSpy(laid(t, 0, 0, 3, 1, 0))
		for range 3 {
			if code, v := deque.Answer(o); code != api.Broken || v != 0 {
				t.Errorf("the machine %d answers %d, %d", i, code, v)
			}
			next := deque.Step(s, o)
			if next != o || deque.Step(nil, o) != o || len(s.asked) != 0 {
				t.Errorf("the machine %d goes on: %v", i, s.asked)
			}
			o = next
		}
	}
	for _, most := range []int{1, 4096} {
		d := deque.Deque{Most: most}
		for i, o := range []deque.Op{deque.Push(d, 0), deque.Pop(d), deque.Steal(d), deque.Look(d)} {
			if code, v := deque.Answer(o); code != api.Running || v != 0 {
				t.Errorf("the machine %d with the most %d answers %d, %d", i, most, code, v)
			}
		}
	}
}

// 3.3: a deque where no cells are.
func TestNoCells(t *testing.T) {
	for _, base := range []int{-1, -2, 6, 50, math.MinInt, math.MaxInt, math.MaxInt - 1, math.MaxInt - 2} {
		d := deque.Deque{Base: base, Most: 2}
		for i, o := range []deque.Op{deque.Push(d, 1), deque.Pop(d), deque.Steal(d), deque.Look(d)} {
			if code, v := through(laid(t, 0, 0, 0, 0, 0, 0), o); code != api.Broken || v != 0 {
				t.Errorf("base %d, the machine %d: %d, %d", base, i, code, v)
			}
		}
	}
}

// 3.5 and 3.6: what a CAS that fails comes to, for each of the two.
func TestLostToAnother(t *testing.T) {
	for _, c := range []struct {
		op   deque.Op
		till int // the accesses ahead of the CAS
		code int
		left []int64
	}{
		{deque.Pop(at(2)), 6, api.Empty, []int64{9, 5, 3, 2, 70, 71}},
		{deque.Steal(at(2)), 5, api.Lost, []int64{9, 5, 3, 2, 70, 71}},
	} {
		m := laid(t, 4, 5, 3, 2, 70, 71)
		o := c.op
		for range c.till {
			o = deque.Step(m, o)
		}
		m.Store(0, 9)
		if code, v := through(m, o); code != c.code || v != 0 || !slices.Equal(m.Cells(), c.left) {
			t.Errorf("answers %d, %d, the cells hold %v, want %d, %v", code, v, m.Cells(), c.code, c.left)
		}
	}
}

// R10: a copy goes on by itself, and what the one does is not to be seen in the other.
func TestCopies(t *testing.T) {
	for _, c := range allWays() {
		for half := range c.asks {
			m := laid(t, c.held...)
			o := c.op
			for range half {
				o = deque.Step(m, o)
			}
			twin := laid(t, m.Cells()...)
			copied := o
			code, v := through(m, o)
			if code2, v2 := through(twin, copied); copied != o || code2 != code || v2 != v || code != c.code || v != c.v {
				t.Errorf("%s: behind the step %d: %d, %d, the copy %d, %d", c.name, half, code, v, code2, v2)
			}
			if !slices.Equal(m.Cells(), twin.Cells()) {
				t.Errorf("%s: behind the step %d: %v, the copy %v", c.name, half, m.Cells(), twin.Cells())
			}
		}
	}
}

// 3.8: deques of one memory keep to the cells that they have reserved.
func TestTwoDeques(t *testing.T) {
	rng := rand.New(rand.NewSource(3))
	m := arena(t, 400)
	m.Reserve(2)
	m.Store(0, 1234)
	whose := []int{9, 9}
	s := newSpy(m)
	var ds [2]deque.Deque
	for i := range ds {
		ds[i] = lay(t, s, 1+i, 8+i)
		for len(whose) < m.Mark() {
			whose = append(whose, i)
		}
	}
	running := make([]deque.Op, 6) // three machines a deque: its owner's and two thieves'
	for n := range 20000 {
		who := rng.Intn(len(running))
		if n%1000 < 500 { // bursts of the owners, so that the deques grow
			who %= 2
		}
		side := who % 2
		if code, _ := deque.Answer(running[who]); code != api.Running {
			if code == api.Broken && running[who] != (deque.Op{}) {
				t.Fatalf("the step %d: a machine broke", n)
			}
			running[who] = anyCall(rng, ds[side], who < 2)
		}
		s.asked = s.asked[:0]
		running[who] = deque.Step(s, running[who])
		for len(whose) < m.Mark() {
			whose = append(whose, side)
		}
		if a := s.asked[0]; len(s.asked) != 1 || a.Kind != api.AcReserve && (a.Addr < 0 || a.Addr >= len(whose) || whose[a.Addr] != side) {
			t.Fatalf("the step %d: the deque %d asked for %v", n, side, s.asked)
		}
		if code, _ := deque.Answer(running[who]); code == api.Broken {
			t.Fatalf("the step %d: the deque %d broke", n, side)
		}
	}
	if m.Mark() != 2+deque.Cells(1, 8)+deque.Cells(2, 9) {
		t.Errorf("the deques have grown to %d cells", m.Mark())
	}
}

func anyCall(rng *rand.Rand, d deque.Deque, owner bool) deque.Op {
	switch {
	case !owner && rng.Intn(4) == 0:
		return deque.Look(d)
	case !owner:
		return deque.Steal(d)
	case rng.Intn(3) > 0:
		return deque.Push(d, rng.Int63())
	}
	return deque.Pop(d)
}
