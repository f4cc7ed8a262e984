package cells_test

import (
	"math"
	"slices"
	"testing"

	"plunder/api"
	"plunder/cells"
)

func arena(t *testing.T, size int) *cells.Arena {
	t.Helper()
	a, err := cells.New(size)
	if err != api.OK {
		t.Fatalf("New(%d): error %d", size, err)
	}
	return a
}

// 2.6
func TestCellsAreTheReservedOnes(t *testing.T) {
	a := arena(t, 5)
	if got := a.Cells(); len(got) != 0 {
		t.Errorf("Cells of a new arena: %v", got)
	}
	a.Reserve(2)
	a.Store(1, 4)
	if got := a.Cells(); !slices.Equal(got, []int64{0, 4}) {
		t.Errorf("Cells %v, want 0 4", got)
	}
	a.Reserve(9)
	a.Reserve(3)
	a.Store(4, -6)
	if got := a.Cells(); !slices.Equal(got, []int64{0, 4, 0, 0, -6}) {
		t.Errorf("Cells %v, want 0 4 0 0 -6", got)
	}
}

// 2.6: a list of cells is nobody else's.
func TestCellsAreNewMemory(t *testing.T) {
	a := arena(t, 40)
	a.Reserve(3)
	a.Store(0, 1)
	first, second := a.Cells(), a.Cells()
	first[0], first[2] = 50, 51
	first = append(first, 52)
	if !slices.Equal(second, []int64{1, 0, 0}) || !slices.Equal(a.Cells(), []int64{1, 0, 0}) {
		t.Errorf("a list was written into: %v, %v", second, a.Cells())
	}
	a.Reserve(1)
	if v, _ := a.Load(3); v != 0 {
		t.Errorf("a list was appended to: the next cell holds %d", v)
	}
	a.Store(1, 60)
	a.Add(2, 61)
	if !slices.Equal(second, []int64{1, 0, 0}) || !slices.Equal(first, []int64{50, 0, 51, 52}) {
		t.Errorf("the arena was written into: %v, %v", second, first)
	}
	grown := a.Cells()
	_ = append(grown[:4:4], 9)
	for range 20 {
		l := append(a.Cells(), 77)
		base, _ := a.Reserve(1)
		if v, _ := a.Load(base); v != 0 {
			t.Fatalf("cell %d holds %d behind an append to %d cells", base, v, len(l)-1)
		}
	}
}

// 2.7
func TestLogOfEachAccess(t *testing.T) {
	a := arena(t, 4)
	if got := a.Log(); len(got) != 0 {
		t.Errorf("the log of a new arena: %v", got)
	}
	a.Watch(true)
	a.Reserve(3)
	a.Who(6)
	a.Store(2, 5)
	a.Load(2)
	a.Add(2, -7)
	a.Who(math.MinInt)
	a.CAS(2, -2, 8)
	a.CAS(2, -2, 9)
	a.Reserve(1)
	want := []api.Access{
		{Who: 0, Kind: api.AcReserve, Addr: 0, A: 3, OK: true},
		{Who: 6, Kind: api.AcStore, Addr: 2, A: 5, OK: true},
		{Who: 6, Kind: api.AcLoad, Addr: 2, A: 5, OK: true},
		{Who: 6, Kind: api.AcAdd, Addr: 2, A: -7, B: -2, OK: true},
		{Who: math.MinInt, Kind: api.AcCAS, Addr: 2, A: -2, B: 8, OK: true},
		{Who: math.MinInt, Kind: api.AcCAS, Addr: 2, A: -2, B: 9},
		{Who: math.MinInt, Kind: api.AcReserve, Addr: 3, A: 1, OK: true},
	}
	if got := a.Log(); !slices.Equal(got, want) {
		t.Errorf("Log %v\nwant %v", got, want)
	}
}

// 2.7: what is written down by whom, and when.
func TestWatchAndWho(t *testing.T) {
	a := arena(t, 3)
	a.Reserve(1)
	a.Load(0)
	if got := a.Log(); len(got) != 0 {
		t.Errorf("Log of an arena that was never watched: %v", got)
	}
	a.Watch(false)
	a.Load(0)
	a.Watch(true)
	a.Watch(true)
	a.Load(0)
	a.Who(3)
	a.Watch(false)
	a.Store(0, 2)
	a.Who(-8)
	if got := a.Log(); len(got) != 1 {
		t.Errorf("what has been written down went away: %v", got)
	}
	a.Watch(true)
	a.Load(0)
	a.Watch(false)
	a.Who(9)
	want := []api.Access{{Kind: api.AcLoad, OK: true}, {Who: -8, Kind: api.AcLoad, A: 2, OK: true}}
	if got := a.Log(); !slices.Equal(got, want) {
		t.Errorf("Log %v, want %v", got, want)
	}
}

// 2.7: refusals, and the calls that are no accesses, write nothing down.
func TestWhatIsNotLogged(t *testing.T) {
	a := arena(t, 2)
	a.Watch(true)
	a.Reserve(1)
	for _, addr := range append([]int{1, 2}, outside...) {
		a.Load(addr)
		a.Store(addr, 1)
		a.CAS(addr, 0, 1)
		a.Add(addr, 1)
	}
	for _, n := range []int{0, -1, 2, math.MaxInt, math.MinInt} {
		a.Reserve(n)
	}
	a.Size()
	a.Mark()
	a.Cells()
	a.Log()
	a.Who(2)
	a.Watch(true)
	if got, want := a.Log(), []api.Access{{Kind: api.AcReserve, A: 1, OK: true}}; !slices.Equal(got, want) {
		t.Errorf("Log %v, want %v", got, want)
	}
}

// 2.7: a log is nobody else's.
func TestLogIsNewMemory(t *testing.T) {
	a := arena(t, 1)
	a.Watch(true)
	a.Reserve(1)
	for n := 1; n < 40; n++ {
		first, second := a.Log(), a.Log()
		if len(first) != n {
			t.Fatalf("Log has %d entries, want %d", len(first), n)
		}
		kept := slices.Clone(second)
		for i := range first {
			first[i] = api.Access{Who: 77}
		}
		_ = append(first, api.Access{Who: 78})
		a.Add(0, 1)
		if !slices.Equal(second, kept) || !slices.Equal(a.Log()[:n], kept) {
			t.Fatalf("a log of %d entries was written into: %v, %v", n, second, a.Log())
		}
		if got, want := a.Log()[n], (api.Access{Kind: api.AcAdd, A: 1, B: int64(n), OK: true}); got != want {
			t.Fatalf("entry %d: %v, want %v", n, got, want)
		}
	}
}
