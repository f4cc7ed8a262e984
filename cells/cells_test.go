package cells_test

import (
	"math"
	"slices"
	"testing"

	"plunder/api"
	"plunder/cells"
)

// memory is what both kinds have.
type memory interface {
	cells.Mem
	Size() int
	Mark() int
}

// kinds: what both kinds promise is asked of both.
var kinds = []struct {
	name string
	make func(size int) (memory, api.Errno)
}{
	{"Arena", func(size int) (memory, api.Errno) { a, err := cells.New(size); return a, err }},
	{"Shared", func(size int) (memory, api.Errno) { s, err := cells.NewShared(size); return s, err }},
}

func made(t *testing.T, kind, size int) memory {
	t.Helper()
	m, err := kinds[kind].make(size)
	if err != api.OK {
		t.Fatalf("%s of size %d: error %d", kinds[kind].name, size, err)
	}
	return m
}

// act does what an act says, as the type's comments tell, without the package's own Play.
func act(m cells.Mem, a api.Act) (e api.Effect) {
	switch a.Kind {
	case api.AcLoad:
		e.V, e.Err = m.Load(a.Addr)
		e.OK = e.Err == api.OK
	case api.AcStore:
		e.Err = m.Store(a.Addr, a.A)
		e.OK = e.Err == api.OK
	case api.AcCAS:
		e.OK, e.Err = m.CAS(a.Addr, a.A, a.B)
	case api.AcAdd:
		e.V, e.Err = m.Add(a.Addr, a.A)
		e.OK = e.Err == api.OK
	case api.AcReserve:
		var base int
		base, e.Err = m.Reserve(int(a.A))
		e.V, e.OK = int64(base), e.Err == api.OK
	default:
		e.Err = api.ErrAct
	}
	return e
}

// dice is a small source of numbers for the tests.
type dice uint64

func (d *dice) roll(n int) int {
	*d = *d*6364136223846793005 + 1442695040888963407
	return int(uint64(*d>>33) % uint64(n))
}

var outside = []int{math.MinInt, math.MinInt32, -2, -1, api.MaxCells, api.MaxCells + 1, math.MaxInt32, math.MaxInt}

// 2.1
func TestNewSizes(t *testing.T) {
	for _, size := range []int{math.MinInt, -5, -1, api.MaxCells + 1, api.MaxCells * 2, math.MaxInt} {
		if a, err := cells.New(size); a != nil || err != api.ErrArg {
			t.Errorf("New(%d) = %v, %d, want nil, ErrArg", size, a, err)
		}
		if s, err := cells.NewShared(size); s != nil || err != api.ErrArg {
			t.Errorf("NewShared(%d) = %p, %d, want nil, ErrArg", size, s, err)
		}
	}
	for k, kind := range kinds {
		for _, size := range []int{0, 1, 2, 63, api.MaxCells - 1, api.MaxCells} {
			m := made(t, k, size)
			if m.Size() != size || m.Mark() != 0 {
				t.Errorf("%s of size %d: Size %d, Mark %d", kind.name, size, m.Size(), m.Mark())
			}
			if _, err := m.Load(0); err != api.ErrAddr {
				t.Errorf("%s of size %d: Load(0) ahead of a Reserve: error %d", kind.name, size, err)
			}
		}
	}
}

// 2.2
func TestReserve(t *testing.T) {
	type ask struct {
		n, base int
		err     api.Errno
		mark    int
	}
	for k, kind := range kinds {
		for _, c := range []struct {
			size int
			asks []ask
		}{
			{5, []ask{{0, 0, api.ErrCount, 0}, {3, 0, api.OK, 3}, {3, 0, api.ErrRoom, 3}, {2, 3, api.OK, 5}, {1, 0, api.ErrRoom, 5}, {0, 0, api.ErrCount, 5}}},
			{0, []ask{{1, 0, api.ErrRoom, 0}, {0, 0, api.ErrCount, 0}, {-1, 0, api.ErrCount, 0}, {math.MaxInt, 0, api.ErrRoom, 0}, {math.MinInt, 0, api.ErrCount, 0}}},
			{4, []ask{{5, 0, api.ErrRoom, 0}, {4, 0, api.OK, 4}, {math.MaxInt, 0, api.ErrRoom, 4}, {math.MaxInt - 3, 0, api.ErrRoom, 4}, {math.MinInt, 0, api.ErrCount, 4}}},
			{3, []ask{{1, 0, api.OK, 1}, {math.MaxInt, 0, api.ErrRoom, 1}, {1, 1, api.OK, 2}, {1, 2, api.OK, 3}, {1, 0, api.ErrRoom, 3}}},
			{api.MaxCells, []ask{{api.MaxCells + 1, 0, api.ErrRoom, 0}, {1, 0, api.OK, 1}, {api.MaxCells, 0, api.ErrRoom, 1}, {api.MaxCells - 1, 1, api.OK, api.MaxCells}}},
		} {
			m := made(t, k, c.size)
			for i, a := range c.asks {
				if base, err := m.Reserve(a.n); base != a.base || err != a.err || m.Mark() != a.mark || m.Size() != c.size {
					t.Errorf("%s of size %d, ask %d: Reserve(%d) = %d, %d, then Mark %d, Size %d; want %d, %d, %d", kind.name, c.size, i, a.n, base, err, m.Mark(), m.Size(), a.base, a.err, a.mark)
				}
			}
		}
	}
}

// 2.2: a Reserve leaves the cells that are in use as they are, and its own hold 0.
func TestReserveGivesFreshCells(t *testing.T) {
	for k, kind := range kinds {
		m := made(t, k, 300)
		for n := 1; m.Mark()+n <= 300; n++ {
			base, err := m.Reserve(n)
			if err != api.OK || base != n*(n-1)/2 {
				t.Fatalf("%s: Reserve(%d) = %d, %d", kind.name, n, base, err)
			}
			for addr := range m.Mark() {
				want := int64(-addr - 1)
				if addr >= base {
					want = 0
				}
				if v, err := m.Load(addr); v != want || err != api.OK {
					t.Errorf("%s: behind Reserve(%d): Load(%d) = %d, %d, want %d", kind.name, n, addr, v, err, want)
				}
				m.Store(addr, int64(-addr-1))
			}
		}
	}
}

// 2.3, 2.4, 2.5: the chapter's examples 3 and 4.
func TestAccessExamples(t *testing.T) {
	for k, kind := range kinds {
		m := made(t, k, 5)
		for i, c := range []struct {
			a    api.Act
			want api.Effect
		}{
			{api.Act{Kind: api.AcReserve, A: 2}, api.Effect{OK: true}},
			{api.Act{Kind: api.AcStore, Addr: 1, A: 7}, api.Effect{OK: true}},
			{api.Act{Kind: api.AcAdd, Addr: 1, A: -9}, api.Effect{V: -2, OK: true}},
			{api.Act{Kind: api.AcCAS, Addr: 1, A: -2, B: 4}, api.Effect{OK: true}},
			{api.Act{Kind: api.AcCAS, Addr: 1, A: -2, B: 5}, api.Effect{}},
			{api.Act{Kind: api.AcLoad, Addr: 1}, api.Effect{V: 4, OK: true}},
			{api.Act{Kind: api.AcCAS, Addr: 1, A: 4, B: 4}, api.Effect{OK: true}},
			{api.Act{Kind: api.AcCAS, Addr: 1, A: 5, B: 5}, api.Effect{}},
			{api.Act{Kind: api.AcLoad, Addr: 0}, api.Effect{OK: true}},
			{api.Act{Kind: api.AcLoad, Addr: 2}, api.Effect{Err: api.ErrAddr}},
			{api.Act{Kind: api.AcLoad, Addr: -1}, api.Effect{Err: api.ErrAddr}},
			{api.Act{Kind: api.AcStore, Addr: 0, A: math.MaxInt64}, api.Effect{OK: true}},
			{api.Act{Kind: api.AcAdd, Addr: 0, A: 1}, api.Effect{V: math.MinInt64, OK: true}},
			{api.Act{Kind: api.AcAdd, Addr: 0, A: -1}, api.Effect{V: math.MaxInt64, OK: true}},
			{api.Act{Kind: api.AcAdd, Addr: 0, A: math.MinInt64}, api.Effect{V: -1, OK: true}},
			{api.Act{Kind: api.AcAdd, Addr: 0, A: 0}, api.Effect{V: -1, OK: true}},
			{api.Act{Kind: api.AcLoad, Addr: 1}, api.Effect{V: 4, OK: true}},
		} {
			if e := act(m, c.a); e != c.want {
				t.Errorf("%s, act %d: %+v = %+v, want %+v", kind.name, i, c.a, e, c.want)
			}
		}
	}
}

// 2.3, 2.4, 2.5: an address that is not in use is refused, and nothing changes by it.
func TestAddressesThatAreRefused(t *testing.T) {
	for k, kind := range kinds {
		m := made(t, k, 6)
		for mark := range 5 {
			for _, addr := range append([]int{mark, mark + 1, 5, 6, 7}, outside...) {
				for _, a := range []api.Act{{Kind: api.AcLoad, Addr: addr}, {Kind: api.AcStore, Addr: addr, A: 3}, {Kind: api.AcCAS, Addr: addr, B: 3}, {Kind: api.AcCAS, Addr: addr}, {Kind: api.AcAdd, Addr: addr, A: 3}} {
					if e := act(m, a); e != (api.Effect{Err: api.ErrAddr}) {
						t.Errorf("%s with mark %d: %+v = %+v, want ErrAddr", kind.name, mark, a, e)
					}
				}
			}
			for addr := range mark {
				if v, err := m.Load(addr); v != int64(addr+9) || err != api.OK {
					t.Errorf("%s with mark %d: Load(%d) = %d, %d", kind.name, mark, addr, v, err)
				}
			}
			if base, err := m.Reserve(1); base != mark || err != api.OK {
				t.Fatalf("%s: Reserve(1) = %d, %d, want %d", kind.name, base, err, mark)
			}
			if v, err := m.Load(mark); v != 0 || err != api.OK {
				t.Errorf("%s: the new cell %d = %d, %d, want 0", kind.name, mark, v, err)
			}
			m.Store(mark, int64(mark+9))
		}
	}
}

// model is the chapter's words on a plain list.
type model struct {
	size  int
	cells []int64
}

func (m *model) do(a api.Act) api.Effect {
	if a.Kind == api.AcReserve {
		switch {
		case a.A < 1:
			return api.Effect{Err: api.ErrCount}
		case a.A > int64(m.size-len(m.cells)):
			return api.Effect{Err: api.ErrRoom}
		}
		base := len(m.cells)
		m.cells = append(m.cells, make([]int64, a.A)...)
		return api.Effect{V: int64(base), OK: true}
	}
	if a.Addr < 0 || a.Addr >= len(m.cells) {
		return api.Effect{Err: api.ErrAddr}
	}
	c := &m.cells[a.Addr]
	switch a.Kind {
	case api.AcStore:
		*c = a.A
	case api.AcCAS:
		if *c != a.A {
			return api.Effect{}
		}
		*c = a.B
	case api.AcAdd:
		*c += a.A
		return api.Effect{V: *c, OK: true}
	case api.AcLoad:
		return api.Effect{V: *c, OK: true}
	}
	return api.Effect{OK: true}
}

// drawn is an act, mostly a good one, on a memory of that size.
func drawn(d *dice, size int) api.Act {
	edges := []int64{0, 1, -1, 2, 7, math.MaxInt64, math.MinInt64}
	a := api.Act{Who: d.roll(9) - 4, Kind: d.roll(5), Addr: d.roll(size+3) - 1, A: edges[d.roll(len(edges))], B: edges[d.roll(len(edges))]}
	if a.Kind == api.AcReserve && d.roll(3) > 0 {
		a.A = int64(d.roll(5)) - 1
	}
	return a
}

// 2.2 to 2.6, 2.10: both kinds answer one goroutine the same, call by call.
func TestBothKindsAreAsTheModel(t *testing.T) {
	d := dice(1)
	for round := range 300 {
		size := d.roll(20)
		want := &model{size: size}
		memories := []memory{made(t, 0, size), made(t, 1, size)}
		for range 60 {
			a := drawn(&d, size)
			e := want.do(a)
			for k, m := range memories {
				if got := act(m, a); got != e {
					t.Fatalf("round %d: %s: %+v = %+v, want %+v", round, kinds[k].name, a, got, e)
				}
				if m.Mark() != len(want.cells) || m.Size() != size {
					t.Fatalf("round %d: %s: Mark %d, Size %d, want %d, %d", round, kinds[k].name, m.Mark(), m.Size(), len(want.cells), size)
				}
			}
		}
		if got := memories[0].(*cells.Arena).Cells(); !slices.Equal(got, want.cells) {
			t.Fatalf("round %d: Cells %v, want %v", round, got, want.cells)
		}
		for addr, v := range want.cells {
			if got, _ := memories[1].Load(addr); got != v {
				t.Fatalf("round %d: Shared: cell %d holds %d, want %d", round, addr, got, v)
			}
		}
	}
}

// 2.8
func TestObjectsThatAreNotThere(t *testing.T) {
	var noArena *cells.Arena
	var noShared *cells.Shared
	for name, m := range map[string]memory{"nil Arena": noArena, "zero Arena": &cells.Arena{}, "nil Shared": noShared, "zero Shared": &cells.Shared{}} {
		for range 2 {
			for _, addr := range append([]int{0, 1}, outside...) {
				for _, a := range []api.Act{{Kind: api.AcLoad, Addr: addr}, {Kind: api.AcStore, Addr: addr}, {Kind: api.AcCAS, Addr: addr}, {Kind: api.AcAdd, Addr: addr, A: 1}} {
					if e := act(m, a); e != (api.Effect{Err: api.ErrAddr}) {
						t.Errorf("%s: %+v = %+v, want ErrAddr", name, a, e)
					}
				}
			}
			for n, want := range map[int]api.Errno{math.MinInt: api.ErrCount, -1: api.ErrCount, 0: api.ErrCount, 1: api.ErrRoom, math.MaxInt: api.ErrRoom} {
				if base, err := m.Reserve(n); base != 0 || err != want {
					t.Errorf("%s: Reserve(%d) = %d, %d, want 0, %d", name, n, base, err, want)
				}
			}
			if m.Size() != 0 || m.Mark() != 0 {
				t.Errorf("%s: Size %d, Mark %d", name, m.Size(), m.Mark())
			}
		}
	}
	for name, a := range map[string]*cells.Arena{"nil": noArena, "zero": {}} {
		a.Watch(true)
		a.Who(4)
		a.Reserve(1)
		a.Load(0)
		a.Watch(false)
		if len(a.Cells()) != 0 || len(a.Log()) != 0 {
			t.Errorf("%s Arena: Cells %v, Log %v", name, a.Cells(), a.Log())
		}
	}
}

// 2.12
func TestObjectsAreApart(t *testing.T) {
	const n = 4
	d := dice(7)
	var models [2 * n]*model
	var memories [2 * n]memory
	for i := range memories {
		models[i], memories[i] = &model{size: 8 + i}, made(t, i%2, 8+i)
	}
	for step := range 2000 {
		i := d.roll(2 * n)
		a := drawn(&d, 8)
		if a.Kind == api.AcReserve {
			a.A = min(a.A, 2)
		}
		if got, want := act(memories[i], a), models[i].do(a); got != want {
			t.Fatalf("step %d: object %d: %+v = %+v, want %+v", step, i, a, got, want)
		}
	}
	for i, m := range memories {
		for addr, want := range models[i].cells {
			if v, _ := m.Load(addr); v != want {
				t.Errorf("object %d: cell %d holds %d, want %d", i, addr, v, want)
			}
		}
	}
}

// 2.7, 2.12: nor have two arenas their actor, their watch or their log in common.
func TestLogsAreApart(t *testing.T) {
	a, _ := cells.New(2)
	b, _ := cells.New(2)
	a.Watch(true)
	a.Who(5)
	b.Reserve(2)
	a.Reserve(1)
	b.Watch(true)
	b.Store(1, 3)
	a.Watch(false)
	b.Load(0)
	if got, want := a.Log(), []api.Access{{Who: 5, Kind: api.AcReserve, A: 1, OK: true}}; !slices.Equal(got, want) {
		t.Errorf("a's log %v, want %v", got, want)
	}
	if got, want := b.Log(), []api.Access{{Kind: api.AcStore, Addr: 1, A: 3, OK: true}, {Kind: api.AcLoad, OK: true}}; !slices.Equal(got, want) {
		t.Errorf("b's log %v, want %v", got, want)
	}
}
