package frames_test

import (
	"math"
	"slices"
	"testing"

	"plunder/api"
	"plunder/cells"
	"plunder/frames"
	"plunder/spy"
)

var machine = spy.Machine[frames.Op]{Step: frames.Step, Answer: frames.Answer}

var noFrames = []int{0, -1, 4097, math.MinInt, math.MaxInt}

func arena(t *testing.T, size int) *cells.Arena {
	t.Helper()
	m, err := cells.New(size)
	if err != api.OK {
		t.Fatalf("an arena of %d cells: %d", size, err)
	}
	return m
}

func lay(t *testing.T, m cells.Mem, n int) frames.Table {
	t.Helper()
	x, err := frames.New(m, n)
	if err != api.OK {
		t.Fatalf("New(%d): %d", n, err)
	}
	return x
}

// 8.1 and example 1.
func TestCells(t *testing.T) {
	for _, c := range [][2]int{{1, 11}, {2, 21}, {3, 31}, {4095, 40951}, {4096, 40961}} {
		if n := frames.Cells(c[0]); n != c[1] {
			t.Errorf("8.1: Cells(%d) = %d, want %d", c[0], n, c[1])
		}
	}
	for _, n := range noFrames {
		if c := frames.Cells(n); c != 0 {
			t.Errorf("8.1: Cells(%d) = %d", n, c)
		}
	}
}

// 8.1 and example 1: what the cells hold, and room that does not suffice.
func TestNew(t *testing.T) {
	m := arena(t, 21)
	if x, err := frames.New(m, 3); x != (frames.Table{}) || err != api.ErrRoom || m.Mark() != 0 {
		t.Errorf("8.1: New(3) in 21 cells: %v, %d", x, err)
	}
	if x, err := frames.New(m, 2); x != (frames.Table{Base: 0, Frames: 2}) || err != api.OK {
		t.Errorf("8.1: New(2) in 21 cells: %v, %d", x, err)
	}
	want := []int64{0, 1, 0, 0, 0, 0, 0, 0, 0, 0, 0, 1, 0, 0, 0, 0, 0, 0, 0, 0, 0}
	if got := m.Cells(); !slices.Equal(got, want) {
		t.Errorf("8.1: New(2) left %v", got)
	}
	if x, err := frames.New(m, 1); x != (frames.Table{}) || err != api.ErrRoom {
		t.Errorf("8.1: New(1) where no cell is left: %v, %d", x, err)
	}
	var none *cells.Arena
	if x, err := frames.New(none, 1); x != (frames.Table{}) || err != api.ErrRoom {
		t.Errorf("8.1: New(1) in an arena that is not there: %v, %d", x, err)
	}
}

// 8.1: the accesses, and each of them refused.
func TestNewAccesses(t *testing.T) {
	m := arena(t, 50)
	m.Reserve(7)
	s := spy.New(m)
	if x, err := frames.New(s, 4); x != (frames.Table{Base: 7, Frames: 4}) || err != api.OK {
		t.Errorf("8.1: New(4) behind 7 cells: %v, %d", x, err)
	}
	want := []api.Act{spy.Reserve(41), spy.Store(8, 1), spy.Store(18, 1), spy.Store(28, 1), spy.Store(38, 1)}
	if !slices.Equal(s.Asked, want) {
		t.Errorf("8.1: New asked for %v, want %v", s.Asked, want)
	}
	for n := range want {
		s := spy.New(arena(t, 50))
		s.Refuse, s.Err = n, api.ErrWindow
		if x, err := frames.New(s, 4); x != (frames.Table{}) || err != api.ErrWindow || len(s.Asked) != n+1 {
			t.Errorf("8.1: the access %d refused: %v, %d, asked for %v", n, x, err, s.Asked)
		}
	}
}

// 8.1: the order of the errors.
func TestNewWrong(t *testing.T) {
	for _, n := range noFrames {
		s := spy.New(arena(t, 9))
		if x, err := frames.New(s, n); x != (frames.Table{}) || err != api.ErrArg || len(s.Asked) != 0 {
			t.Errorf("8.1: New(%d) = %v, %d, asked for %v", n, x, err, s.Asked)
		}
		if x, err := frames.New(nil, n); x != (frames.Table{}) || err != api.ErrNil {
			t.Errorf("8.1: New(nil, %d) = %v, %d", n, x, err)
		}
	}
	if x, err := frames.New(nil, 1); x != (frames.Table{}) || err != api.ErrNil {
		t.Errorf("8.1: New(nil, 1) = %v, %d", x, err)
	}
}

// 8.1 and 8.3: the greatest table; each of its frames is given once, and Full stays Full.
func TestGreatest(t *testing.T) {
	m := arena(t, 40961)
	x := lay(t, m, 4096)
	for n := range int64(4096) {
		if code, v := machine.Through(m, frames.Alloc(x)); code != api.Got || v != n {
			t.Fatalf("8.3: Alloc number %d: %d, %d", n, code, v)
		}
	}
	for range 5 {
		if code, v := machine.Through(m, frames.Alloc(x)); code != api.Full || v != 0 {
			t.Errorf("8.3: Alloc of one more: %d, %d", code, v)
		}
	}
	machine.Through(m, frames.Finish(x, 4095, 7, 5))
	machine.Through(m, frames.Start(x, 4095))
	now := m.Cells()
	if !slices.Equal(now[40950:], []int64{0, 1, 1, 0, 0, 0, 0, 0, 0, 0, 5}) || now[0] != 4101 {
		t.Errorf("8.5: the last frame holds %v, NEXT %d", now[40950:], now[0])
	}
}
