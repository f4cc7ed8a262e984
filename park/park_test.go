package park_test

import (
	"math"
	"slices"
	"testing"

	"plunder/api"
	"plunder/cells"
	"plunder/deque"
	"plunder/park"
	"plunder/spy"
)

var (
	machine = spy.Machine[park.Op]{Step: park.Step, Answer: park.Answer}
	calls   = spy.Machine[deque.Op]{Step: deque.Step, Answer: deque.Answer}
)

var noWorkers = []int{0, -1, 65, math.MinInt, math.MaxInt}

func arena(t *testing.T, size int) *cells.Arena {
	t.Helper()
	m, err := cells.New(size)
	if err != api.OK {
		t.Fatalf("an arena of %d cells: %d", size, err)
	}
	return m
}

// lay lays a lot, and for each worker a deque of first 1 with room for some.
func lay(t *testing.T, m cells.Mem, workers int) (park.Lot, []deque.Deque) {
	t.Helper()
	l, err := park.New(m, workers)
	if err != api.OK {
		t.Fatalf("New(%d): %d", workers, err)
	}
	var deques []deque.Deque
	for range workers {
		d, err := deque.New(m, 1, 2)
		if err != api.OK {
			t.Fatalf("a deque: %d", err)
		}
		deques = append(deques, d)
	}
	return l, deques
}

// 9.1 and example 1.
func TestCells(t *testing.T) {
	for _, c := range [][2]int{{1, 3}, {2, 4}, {7, 9}, {63, 65}, {64, 66}} {
		if n := park.Cells(c[0]); n != c[1] {
			t.Errorf("9.1: Cells(%d) = %d, want %d", c[0], n, c[1])
		}
	}
	for _, n := range noWorkers {
		if c := park.Cells(n); c != 0 {
			t.Errorf("9.1: Cells(%d) = %d", n, c)
		}
	}
}

// 9.1: where the lot lies, and room that does not suffice.
func TestNew(t *testing.T) {
	m := arena(t, 70)
	m.Reserve(3)
	if l, err := park.New(m, 64); l != (park.Lot{Base: 3, Workers: 64}) || err != api.OK || m.Mark() != 69 {
		t.Errorf("9.1: New(64) behind 3 cells: %v, %d, the mark %d", l, err, m.Mark())
	}
	if l, err := park.New(m, 1); l != (park.Lot{}) || err != api.ErrRoom || m.Mark() != 69 {
		t.Errorf("9.1: New(1) in one cell: %v, %d", l, err)
	}
	if !slices.Equal(m.Cells(), make([]int64, 69)) {
		t.Errorf("9.1: New left %v", m.Cells())
	}
	var none *cells.Arena
	if l, err := park.New(none, 1); l != (park.Lot{}) || err != api.ErrRoom {
		t.Errorf("9.1: New(1) in an arena that is not there: %v, %d", l, err)
	}
}

// 9.1: the one access, and it refused.
func TestNewAccesses(t *testing.T) {
	s := spy.New(arena(t, 50))
	if l, err := park.New(s, 5); l != (park.Lot{Base: 0, Workers: 5}) || err != api.OK || !slices.Equal(s.Asked, []api.Act{spy.Reserve(7)}) {
		t.Errorf("9.1: New(5): %v, %d, asked for %v", l, err, s.Asked)
	}
	s = spy.New(arena(t, 50))
	s.Refuse, s.Err = 0, api.ErrWindow
	if l, err := park.New(s, 5); l != (park.Lot{}) || err != api.ErrWindow || len(s.Asked) != 1 {
		t.Errorf("9.1: New(5), refused: %v, %d, asked for %v", l, err, s.Asked)
	}
}

// 9.1 and example 1: the order of the errors.
func TestNewWrong(t *testing.T) {
	for _, n := range noWorkers {
		s := spy.New(arena(t, 200))
		if l, err := park.New(s, n); l != (park.Lot{}) || err != api.ErrArg || len(s.Asked) != 0 {
			t.Errorf("9.1: New(%d) = %v, %d, asked for %v", n, l, err, s.Asked)
		}
		if l, err := park.New(nil, n); l != (park.Lot{}) || err != api.ErrNil {
			t.Errorf("9.1: New(nil, %d) = %v, %d", n, l, err)
		}
	}
	if l, err := park.New(nil, 1); l != (park.Lot{}) || err != api.ErrNil {
		t.Errorf("9.1: New(nil, 1) = %v, %d", l, err)
	}
}
