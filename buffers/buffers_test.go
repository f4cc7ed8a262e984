package buffers_test

import (
	"math"
	"math/rand"
	"slices"
	"testing"

	"plunder/api"
	"plunder/buffers"
	"plunder/cells"
	"plunder/spy"
)

func made(t *testing.T, size, actors, room int) *buffers.Memory {
	t.Helper()
	m, err := buffers.New(size, actors, room)
	if err != api.OK || m == nil {
		t.Fatalf("New(%d, %d, %d): error %d", size, actors, room, err)
	}
	return m
}

// 21.1
func TestNew(t *testing.T) {
	for _, c := range []struct {
		size, actors, room int
		err                api.Errno
	}{
		{0, 1, 1, api.OK}, {5, 8, 64, api.OK}, {api.MaxCells, 8, 64, api.OK}, {1, 2, 63, api.OK},
		{-1, 1, 1, api.ErrArg}, {api.MaxCells + 1, 1, 1, api.ErrArg}, {math.MinInt, 0, 0, api.ErrArg}, {math.MaxInt, 9, 65, api.ErrArg},
		{1, 0, 1, api.ErrView}, {1, -1, 1, api.ErrView}, {1, 9, 1, api.ErrView}, {1, math.MinInt, 1, api.ErrView}, {1, math.MaxInt, 1, api.ErrView},
		{1, 1, 0, api.ErrView}, {1, 1, -1, api.ErrView}, {1, 1, 65, api.ErrView}, {1, 1, math.MinInt, api.ErrView}, {1, 1, math.MaxInt, api.ErrView},
	} {
		m, err := buffers.New(c.size, c.actors, c.room)
		if err != c.err || (m == nil) != (err != api.OK) {
			t.Errorf("New(%d, %d, %d) = %p, %d, want %d", c.size, c.actors, c.room, m, err, c.err)
			continue
		}
		if len(m.Cells())+len(m.Log()) != 0 {
			t.Errorf("New(%d, %d, %d) has cells %v, a log %v", c.size, c.actors, c.room, m.Cells(), m.Log())
		}
		for _, actor := range []int{math.MinInt, -1, 0, 1, 7, 8, math.MaxInt} {
			has := err == api.OK && actor >= 0 && actor < c.actors
			if (m.View(actor) != nil) != has || len(m.Waiting(actor)) != 0 || m.Flush(actor) {
				t.Errorf("New(%d, %d, %d): the actor %d: %p, waiting %v", c.size, c.actors, c.room, actor, m.View(actor), m.Waiting(actor))
			}
		}
	}
}

// 21.1, 21.3: so many stores wait, and no more; the one more lets the oldest come into its cell.
func TestRoom(t *testing.T) {
	for room := 1; room <= api.MaxRoom; room++ {
		m := made(t, 2*api.MaxRoom, 2, room)
		v := m.View(1)
		v.Reserve(2 * api.MaxRoom)
		for i := range 2 * api.MaxRoom {
			if v.Store(i, int64(i+1)) != api.OK {
				t.Fatalf("room %d: the store %d was refused", room, i)
			}
			landed := max(0, i+1-room)
			if l := m.Waiting(1); len(l) != i+1-landed || l[0] != (api.Wait{Addr: landed, V: int64(landed + 1)}) || l[len(l)-1] != (api.Wait{Addr: i, V: int64(i + 1)}) {
				t.Fatalf("room %d: behind the store %d there wait %v", room, i, l)
			}
			if log := m.Log(); len(log) != 1+landed {
				t.Fatalf("room %d: behind the store %d the log is %v", room, i, log)
			}
		}
	}
}

// 21.3: what is refused changes nothing, drains nothing, and is in no log.
func TestRefusals(t *testing.T) {
	m := made(t, 4, 2, 3)
	v := m.View(0)
	v.Reserve(2)
	v.Store(0, 5)
	v.Store(1, 6)
	m.View(1).Store(0, 7)
	log := m.Log()
	for _, addr := range append([]int{2, 3, 4}, outside...) {
		for kind := api.AcLoad; kind <= api.AcAdd; kind++ {
			if e := act(v, api.Act{Kind: kind, Addr: addr, A: 1, B: 2}); e != (api.Effect{Err: api.ErrAddr}) {
				t.Errorf("an act of the kind %d at %d answers %v", kind, addr, e)
			}
		}
	}
	for n, want := range map[int]api.Errno{0: api.ErrCount, -1: api.ErrCount, math.MinInt: api.ErrCount, 3: api.ErrRoom, math.MaxInt: api.ErrRoom, math.MaxInt - 1: api.ErrRoom} {
		if base, err := v.Reserve(n); base != 0 || err != want {
			t.Errorf("Reserve(%d) = %d, %d, want %d", n, base, err, want)
		}
	}
	if l := m.Waiting(0); !slices.Equal(l, []api.Wait{{Addr: 0, V: 5}, {Addr: 1, V: 6}}) || !slices.Equal(m.Log(), log) {
		t.Errorf("behind refusals there wait %v, the log is %v", l, m.Log())
	}
	if base, err := v.Reserve(2); base != 2 || err != api.OK || len(m.Waiting(0)) != 0 || len(m.Waiting(1)) != 1 {
		t.Errorf("Reserve(2) = %d, %d, there wait %v, %v", base, err, m.Waiting(0), m.Waiting(1))
	}
	want := append(log, api.Access{Kind: api.AcStore, A: 5, OK: true}, api.Access{Kind: api.AcStore, Addr: 1, A: 6, OK: true}, api.Access{Kind: api.AcReserve, Addr: 2, A: 2, OK: true})
	if !slices.Equal(m.Log(), want) {
		t.Errorf("the log %v, want %v", m.Log(), want)
	}
}

// 21.2, 21.3, 21.4: each call answers, and leaves behind, what the chapter's words say.
func TestMemoryIsAsTheModel(t *testing.T) {
	rng := rand.New(rand.NewSource(21))
	for round := range 400 {
		size, actors, room := rng.Intn(7), 1+rng.Intn(api.MaxViews), 1+rng.Intn(5)
		m, want := made(t, size, actors, room), &model{size: size, room: room}
		views := make([]*buffers.View, actors)
		for i := range views {
			views[i] = m.View(i)
		}
		for range 150 {
			who := rng.Intn(actors)
			switch rng.Intn(4) {
			case 0:
				who += rng.Intn(3) - 1
				if got := m.Flush(who); got != want.flush(who) {
					t.Fatalf("round %d: Flush(%d) = %v", round, who, got)
				}
			default:
				a := drawn(rng, len(want.cells))
				v := views[who]
				if rng.Intn(3) == 0 {
					v = m.View(who)
				}
				if got, e := act(v, a), want.act(who, a); got != e {
					t.Fatalf("round %d: the actor %d: %+v = %+v, want %+v", round, who, a, got, e)
				}
			}
			for who := -1; who <= actors; who++ {
				if got := m.Waiting(who); !slices.Equal(got, want.waiting(who)) {
					t.Fatalf("round %d: Waiting(%d) = %v, want %v", round, who, got, want.waiting(who))
				}
			}
			if !slices.Equal(m.Cells(), want.cells) {
				t.Fatalf("round %d: Cells %v, want %v", round, m.Cells(), want.cells)
			}
		}
		if !slices.Equal(m.Log(), want.log) {
			t.Fatalf("round %d: the log %v\nwant %v", round, m.Log(), want.log)
		}
	}
}

// 21.3: the newest of several waiting stores is seen by its own actor, none by another.
func TestWhoSeesWhat(t *testing.T) {
	m := made(t, 2, 2, 8)
	a, b := m.View(0), m.View(1)
	a.Reserve(2)
	for i, step := range []struct {
		do         func()
		mine, hers int64 // what both see in cell 0
	}{
		{func() {}, 0, 0},
		{func() { a.Store(0, 3) }, 3, 0},
		{func() { a.Store(1, 9); a.Store(0, 4) }, 4, 0},
		{func() { m.Flush(0) }, 4, 3},
		{func() { b.Store(0, 7) }, 4, 7},
		{func() { m.Flush(1) }, 4, 7},
		{func() { b.Fence() }, 4, 7},
		{func() { m.Flush(0) }, 4, 7},
		{func() { a.Fence() }, 4, 4},
		{func() { b.Add(0, 5) }, 9, 9},
	} {
		step.do()
		mine, err := a.Load(0)
		hers, err2 := b.Load(0)
		if mine != step.mine || hers != step.hers || err != api.OK || err2 != api.OK {
			t.Errorf("step %d: %d, %d, want %d, %d", i, mine, hers, step.mine, step.hers)
		}
	}
	if c := m.Cells(); !slices.Equal(c, []int64{9, 9}) {
		t.Errorf("the cells %v", c)
	}
}

// 21.5
func TestNone(t *testing.T) {
	var none *buffers.Memory
	for i, m := range []*buffers.Memory{none, {}} {
		for _, actor := range []int{-1, 0, 1} {
			if m.View(actor) != nil || m.Flush(actor) || len(m.Waiting(actor)) != 0 {
				t.Errorf("the memory %d has an actor %d", i, actor)
			}
		}
		if len(m.Cells())+len(m.Log()) != 0 {
			t.Errorf("the memory %d has cells %v, a log %v", i, m.Cells(), m.Log())
		}
	}
	for i, v := range []*buffers.View{nil, {}, none.View(0), made(t, 1, 1, 1).View(1)} {
		for _, addr := range append([]int{0, 1}, outside...) {
			for kind := api.AcLoad; kind <= api.AcAdd; kind++ {
				if e := act(v, api.Act{Kind: kind, Addr: addr}); e != (api.Effect{Err: api.ErrAddr}) {
					t.Errorf("the view %d: an act of the kind %d at %d answers %v", i, kind, addr, e)
				}
			}
		}
		for n, want := range map[int]api.Errno{math.MinInt: api.ErrCount, -1: api.ErrCount, 0: api.ErrCount, 1: api.ErrRoom, math.MaxInt: api.ErrRoom} {
			if base, err := v.Reserve(n); base != 0 || err != want {
				t.Errorf("the view %d: Reserve(%d) = %d, %d, want %d", i, n, base, err, want)
			}
		}
		v.Fence()
	}
}

// 21.4, 21.16: lists are nobody else's.
func TestListsAreNewMemory(t *testing.T) {
	m := made(t, 40, 1, 30)
	var v cells.Mem = m.View(0)
	v.Reserve(40)
	for n := range 30 {
		v.Store(n, int64(n+1))
		v.Load(39)
		waiting, held, log := m.Waiting(0), m.Cells(), m.Log()
		_, _, _ = append(waiting, api.Wait{Addr: 39, V: 99}), append(held, 99), append(log, api.Access{Who: 99})
		clear(waiting)
		clear(held)
		clear(log)
		if w := m.Waiting(0); len(w) != n+1 || w[0] != (api.Wait{Addr: 0, V: 1}) || w[n] != (api.Wait{Addr: n, V: int64(n + 1)}) {
			t.Fatalf("a list of what waits was written into: %v", w)
		}
		if l := m.Log(); len(l) != n+2 || l[0].A != 40 || l[n+1] != (api.Access{Kind: api.AcLoad, Addr: 39, OK: true}) {
			t.Fatalf("a log was written into: %v", l)
		}
	}
	before := m.Waiting(0)
	kept := slices.Clone(before)
	m.View(0).Fence()
	held := m.Cells()
	clear(held)
	if now := m.Cells(); now[0] != 1 || now[29] != 30 || !slices.Equal(before, kept) {
		t.Errorf("a list was written into: %v, %v", now, before)
	}
}

// 21.3: memories have nothing in common, and the machines of other layers run on views.
func TestMemoriesAreApart(t *testing.T) {
	a, b := made(t, 2, 1, 2), made(t, 2, 1, 2)
	a.View(0).Reserve(2)
	b.View(0).Reserve(1)
	a.View(0).Store(0, 4)
	if v, _ := b.View(0).Load(0); v != 0 || len(b.Waiting(0)) != 0 || b.Flush(0) || len(b.Cells()) != 1 {
		t.Errorf("a store into one memory is in the other")
	}
	var m cells.Mem = a.View(0)
	if e := m.Store(1, 2); e != api.OK || act(a.View(0), spy.Load(1)) != (api.Effect{V: 2, OK: true}) {
		t.Errorf("a store through Mem: %d", e)
	}
}
