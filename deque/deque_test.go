package deque_test

import (
	"math"
	"slices"
	"testing"

	"plunder/api"
	"plunder/cells"
	"plunder/deque"
	"plunder/spy"
)

func arena(t *testing.T, size int) *cells.Arena {
	t.Helper()
	m, err := cells.New(size)
	if err != api.OK {
		t.Fatalf("an arena of %d cells: %d", size, err)
	}
	return m
}

func lay(t *testing.T, m cells.Mem, first, most int) deque.Deque {
	t.Helper()
	d, err := deque.New(m, first, most)
	if err != api.OK {
		t.Fatalf("New(%d, %d): %d", first, most, err)
	}
	return d
}

// 3.1: just three accesses, in their order.
func TestNewAccesses(t *testing.T) {
	m := arena(t, 40)
	m.Reserve(11)
	s := spy.New(m)
	d, err := deque.New(s, 5, 9)
	if err != api.OK || d != (deque.Deque{Base: 11, Most: 9}) {
		t.Errorf("New(5, 9) = %v, %d", d, err)
	}
	want := []api.Act{spy.Reserve(9), spy.Store(13, 14), spy.Store(14, 5)}
	if !slices.Equal(s.Asked, want) {
		t.Errorf("New asked for %v, want %v", s.Asked, want)
	}
	if got := m.Cells()[11:]; !slices.Equal(got, []int64{0, 0, 14, 5, 0, 0, 0, 0, 0}) {
		t.Errorf("New left %v", got)
	}
}

// 3.1: a refused access ends New with its error, whichever of the three it is.
func TestNewRefused(t *testing.T) {
	for n := range 3 {
		s := spy.New(arena(t, 40))
		s.Refuse, s.Err = n, api.ErrWindow
		if d, err := deque.New(s, 2, 3); err != api.ErrWindow || d != (deque.Deque{}) || len(s.Asked) != n+1 {
			t.Errorf("the access %d refused: %v, %d, asked for %v", n, d, err, s.Asked)
		}
	}
	var none *cells.Arena
	if d, err := deque.New(none, 1, 1); err != api.ErrRoom || d != (deque.Deque{}) {
		t.Errorf("a memory of no cells: %v, %d", d, err)
	}
	m := arena(t, 9)
	if d, err := deque.New(m, 6, 6); err != api.ErrRoom || d != (deque.Deque{}) || m.Mark() != 0 {
		t.Errorf("a memory too small: %v, %d", d, err)
	}
	if _, err := deque.New(m, 5, 4096); err != api.OK || m.Mark() != 9 {
		t.Errorf("a memory just large enough: %d", err)
	}
}

func TestNewWrongCapacities(t *testing.T) {
	least, greatest := math.MinInt, math.MaxInt
	for _, c := range [][2]int{{0, 0}, {0, 1}, {-1, 5}, {2, 1}, {1, 4097}, {4097, 4097}, {1, 0}, {1, -1}, {least, least}, {greatest, greatest}, {least, 1}, {1, greatest}, {4096, 4095}} {
		s := spy.New(arena(t, 9000))
		if d, err := deque.New(s, c[0], c[1]); err != api.ErrCap || d != (deque.Deque{}) || len(s.Asked) != 0 {
			t.Errorf("New%v = %v, %d, asked for %v", c, d, err, s.Asked)
		}
		if n := deque.Cells(c[0], c[1]); n != 0 {
			t.Errorf("Cells%v = %d", c, n)
		}
		if d, err := deque.New(nil, c[0], c[1]); err != api.ErrNil || d != (deque.Deque{}) {
			t.Errorf("New(nil, %v) = %v, %d", c, d, err)
		}
	}
	for _, c := range [][2]int{{1, 1}, {1, 4096}, {4096, 4096}} {
		if d, err := deque.New(arena(t, 9000), c[0], c[1]); err != api.OK || d != (deque.Deque{Most: c[1]}) {
			t.Errorf("New%v = %v, %d", c, d, err)
		}
	}
}

// 3.1: the document's examples of Cells, and that a deque that is filled takes just so many.
func TestCells(t *testing.T) {
	for _, c := range [][3]int{{1, 1, 5}, {1, 2, 8}, {2, 7, 19}, {1, 4096, 5 + 12 + 8190}, {4095, 4096, 4099 + 4097}, {4096, 4096, 4100}} {
		if n := deque.Cells(c[0], c[1]); n != c[2] {
			t.Errorf("Cells(%d, %d) = %d, want %d", c[0], c[1], n, c[2])
		}
	}
	for most := 1; most <= 20; most++ {
		for first := 1; first <= most; first++ {
			m := arena(t, 200)
			d := lay(t, m, first, most)
			for i := range most {
				if code, _ := machine.Through(m, deque.Push(d, int64(i))); code != api.Pushed {
					t.Fatalf("a push into New(%d, %d): %d", first, most, code)
				}
			}
			if code, _ := machine.Through(m, deque.Push(d, 0)); code != api.Full || m.Mark() != deque.Cells(first, most) {
				t.Errorf("New(%d, %d), filled: a push more answers %d, %d cells, Cells tells %d", first, most, code, m.Mark(), deque.Cells(first, most))
			}
		}
	}
}
