package buffers_test

import (
	"math"
	"math/rand"
	"slices"
	"testing"

	"plunder/api"
	"plunder/buffers"
	"plunder/cells"
	"plunder/ops"
	"plunder/spy"
)

func lists(l ...[]api.Act) [][]api.Act { return l }
func acts(l ...api.Act) []api.Act      { return l }

func isEmpty(r api.BufferRun) bool {
	return len(r.Effects)+len(r.Waiting)+len(r.Cells)+len(r.Log) == 0 && !r.Done
}

func sameRun(a, b api.BufferRun) bool {
	return sameLists(a.Effects, b.Effects) && sameLists(a.Waiting, b.Waiting) && slices.Equal(a.Cells, b.Cells) && slices.Equal(a.Log, b.Log) && a.Done == b.Done
}

func ok(v int64) api.Effect                { return api.Effect{V: v, OK: true} }
func refused(err api.Errno) api.Effect     { return api.Effect{Err: err} }
func effects(l ...api.Effect) []api.Effect { return l }

func seen(who, kind, addr int, a, b int64) api.Access {
	return api.Access{Who: who, Kind: kind, Addr: addr, A: a, B: b, OK: true}
}

// 21.6: the examples 1, 4 and 5.
func TestExamples(t *testing.T) {
	sb := lists(acts(spy.Store(0, 1), spy.Load(1)), acts(spy.Store(1, 1), spy.Load(0)))
	for i, c := range []struct {
		size, used, room int
		lists            [][]api.Act
		picks            []int
		want             api.BufferRun
	}{
		{2, 2, 4, sb, []int{0, 0, 1, 1, 2, 3}, api.BufferRun{
			Effects: [][]api.Effect{{ok(0), ok(0)}, {ok(0), ok(0)}}, Waiting: make([][]api.Wait, 2), Cells: []int64{1, 1}, Done: true,
			Log: []api.Access{seen(0, api.AcLoad, 1, 0, 0), seen(1, api.AcLoad, 0, 0, 0), seen(0, api.AcStore, 0, 1, 0), seen(1, api.AcStore, 1, 1, 0)}}},
		{2, 2, 4, sb, []int{-4, 4, 5, 1, 2}, api.BufferRun{
			Effects: [][]api.Effect{{ok(0), ok(0)}, {ok(0), ok(0)}}, Waiting: [][]api.Wait{nil, {{Addr: 1, V: 1}}}, Cells: []int64{1, 0},
			Log: []api.Access{seen(0, api.AcLoad, 1, 0, 0), seen(1, api.AcLoad, 0, 0, 0), seen(0, api.AcStore, 0, 1, 0)}}},
		{1, 1, 1, lists(acts(spy.Store(0, 5), spy.Load(0), spy.Store(0, 6), spy.Add(0, 1))), []int{0, 0, 0, 0}, api.BufferRun{
			Effects: [][]api.Effect{{ok(0), ok(5), ok(0), ok(7)}}, Waiting: make([][]api.Wait, 1), Cells: []int64{7}, Done: true,
			Log: []api.Access{seen(0, api.AcStore, 0, 5, 0), seen(0, api.AcStore, 0, 6, 0), seen(0, api.AcAdd, 0, 1, 7)}}},
		{1, 0, 1, lists(acts(spy.Store(0, 1))), []int{0}, api.BufferRun{Effects: [][]api.Effect{{refused(api.ErrAddr)}}, Waiting: make([][]api.Wait, 1), Done: true}},
		{1, 0, 1, lists(acts(spy.Reserve(1), spy.Store(0, 1))), []int{0, 0}, api.BufferRun{
			Effects: [][]api.Effect{{ok(0), ok(0)}}, Waiting: [][]api.Wait{{{Addr: 0, V: 1}}}, Cells: []int64{0},
			Log: []api.Access{seen(0, api.AcReserve, 0, 1, 0)}}},
		{3, 3, 1, lists(nil), nil, api.BufferRun{Effects: make([][]api.Effect, 1), Waiting: make([][]api.Wait, 1), Cells: []int64{0, 0, 0}, Done: true}},
		{0, 0, 1, lists(acts(fence)), []int{1, 3, -1}, api.BufferRun{Effects: make([][]api.Effect, 1), Waiting: make([][]api.Wait, 1)}},
		{2, 1, 1, lists(acts(api.Act{Kind: -1}, fence, api.Act{Kind: 6}, api.Act{Kind: math.MaxInt}, api.Act{Kind: math.MinInt}, api.Act{Kind: api.AcFence, Addr: -9, A: 4, B: 5})), []int{0, 0, 0, 0, 0, 0, 0}, api.BufferRun{
			Effects: [][]api.Effect{{refused(api.ErrAct), ok(0), refused(api.ErrAct), refused(api.ErrAct), refused(api.ErrAct), ok(0)}}, Waiting: make([][]api.Wait, 1), Cells: []int64{0}, Done: true}},
	} {
		if r, err := buffers.Play(c.size, c.used, c.room, c.lists, c.picks); err != api.OK || !sameRun(r, c.want) {
			t.Errorf("the play %d: %+v, %d\nwant %+v", i, r, err, c.want)
		}
	}
}

// 21.6: what is refused, the first-named error first, and the greatest that is not.
func TestPlayRefusals(t *testing.T) {
	one := lists(acts(spy.Load(0)))
	long, most := lists(nil, make([]api.Act, api.MaxActs+1)), lists(nil, make([]api.Act, api.MaxActs))
	many := make([]int, api.MaxPicks+1)
	for i, c := range []struct {
		size, used, room int
		lists            [][]api.Act
		picks            []int
		err              api.Errno
	}{
		{-1, 0, 1, one, nil, api.ErrArg}, {-1, -1, 1, one, nil, api.ErrArg}, {-2, -3, 0, nil, many, api.ErrArg}, {api.MaxCells + 1, 0, 0, long, nil, api.ErrArg}, {math.MinInt, math.MinInt, 1, one, nil, api.ErrArg}, {math.MaxInt, math.MaxInt, 1, one, nil, api.ErrArg},
		{2, 3, 0, nil, nil, api.ErrArg}, {2, -1, 1, one, nil, api.ErrArg}, {2, math.MinInt, 1, one, nil, api.ErrArg}, {0, 1, 1, one, nil, api.ErrArg}, {2, math.MaxInt, 1, one, nil, api.ErrArg},
		{2, 2, 1, nil, nil, api.ErrView}, {2, 2, 1, lists(), many, api.ErrView}, {2, 2, 1, append(make([][]api.Act, 7), long...), nil, api.ErrView}, {2, 2, 0, long, nil, api.ErrView}, {2, 2, 65, one, many, api.ErrView}, {2, 2, -1, one, nil, api.ErrView},
		{2, 2, 64, long, nil, api.ErrLong}, {2, 2, 1, one, many, api.ErrLong}, {0, 0, 1, long, many, api.ErrLong},
	} {
		if r, err := buffers.Play(c.size, c.used, c.room, c.lists, c.picks); err != c.err || !isEmpty(r) {
			t.Errorf("refusal %d: %v, %d, want %d", i, r, err, c.err)
		}
	}
	r, err := buffers.Play(api.MaxCells, api.MaxCells, 64, append(make([][]api.Act, 6), most...), many[1:])
	if err != api.OK || len(r.Cells) != api.MaxCells || len(r.Effects) != 8 || len(r.Waiting) != 8 || r.Done || len(r.Log) != 0 {
		t.Errorf("the greatest play: %d cells, %d effects, %d", len(r.Cells), len(r.Effects), err)
	}
}

// scene is drawn: lists of acts on a memory, and picks.
type scene struct {
	size, used, room int
	lists            [][]api.Act
	picks            []int
}

// drawnScene draws one with at least so many cells in use, and its acts by next.
func drawnScene(rng *rand.Rand, least int, next func(who, used int) []api.Act) scene {
	s := scene{used: least + rng.Intn(4), room: 1 + rng.Intn(4)}
	s.size = s.used + rng.Intn(4)
	s.lists = make([][]api.Act, 1+rng.Intn(4))
	total := 0
	for who := range s.lists {
		for range rng.Intn(12) {
			s.lists[who] = append(s.lists[who], next(who, s.used)...)
		}
		total += len(s.lists[who])
	}
	s.picks = spy.Picks(rng.Intn, rng.Intn(3*total+8), 2*len(s.lists))
	return s
}

func (s scene) play(t *testing.T) api.BufferRun {
	t.Helper()
	r, err := buffers.Play(s.size, s.used, s.room, s.lists, s.picks)
	if err != api.OK {
		t.Fatalf("%+v: error %d", s, err)
	}
	return r
}

// byModel is what a play comes to by the chapter's words.
func (s scene) byModel() api.BufferRun {
	m := &model{size: s.size, room: s.room, cells: make([]int64, s.used)}
	n := len(s.lists)
	r := api.BufferRun{Effects: make([][]api.Effect, n), Waiting: make([][]api.Wait, n), Done: true}
	for _, x := range s.picks {
		k := ops.Mod(x, 2*n)
		if k >= n {
			m.flush(k - n)
		} else if len(r.Effects[k]) < len(s.lists[k]) {
			r.Effects[k] = append(r.Effects[k], m.act(k, s.lists[k][len(r.Effects[k])]))
		}
	}
	for k := range n {
		r.Waiting[k] = m.waiting(k)
		r.Done = r.Done && len(r.Waiting[k]) == 0 && len(r.Effects[k]) == len(s.lists[k])
	}
	r.Cells, r.Log = m.cells, m.log
	return r
}

// 21.6; 21.16: what is handed in stays as it is, what is handed out is new.
func TestPlayIsAsTheModel(t *testing.T) {
	rng := rand.New(rand.NewSource(22))
	done, waits := 0, 0
	for range 6000 {
		s := drawnScene(rng, 0, func(who, used int) []api.Act {
			a := drawn(rng, used)
			if rng.Intn(30) == 0 {
				a.Kind = rng.Intn(14) - 4
			}
			return acts(a)
		})
		before, picks := cloned(s.lists), slices.Clone(s.picks)
		want := s.byModel()
		for range 2 {
			r := s.play(t)
			if !sameRun(r, want) {
				t.Fatalf("%+v: %+v\nwant %+v", s, r, want)
			}
			for k := range r.Effects {
				_, _ = append(r.Effects[k], ok(99)), append(r.Waiting[k], api.Wait{V: 99})
				clear(r.Effects[k])
				clear(r.Waiting[k])
			}
			clear(r.Cells)
			clear(r.Log)
		}
		if !sameLists(s.lists, before) || !slices.Equal(s.picks, picks) {
			t.Fatalf("what was handed in has changed")
		}
		if want.Done {
			done++
		}
		for _, l := range want.Waiting {
			waits += len(l)
		}
	}
	if done < 300 || waits < 300 {
		t.Errorf("too few of the plays were done (%d), or too few stores waited at their ends (%d)", done, waits)
	}
}

// 21.9: one list alone has the effects of plain cells.
func TestAlone(t *testing.T) {
	rng := rand.New(rand.NewSource(23))
	for range 3000 {
		s := drawnScene(rng, 0, func(who, used int) []api.Act { return acts(drawn(rng, used)) })
		s.lists = s.lists[:1]
		s.picks = spy.Picks(rng.Intn, len(s.picks), 2)
		r := s.play(t)
		m, _ := cells.New(s.size)
		m.Reserve(s.used)
		for i, e := range r.Effects[0] {
			if want := act(m, s.lists[0][i]); e != want {
				t.Fatalf("%+v: the effect %d is %v, want %v", s, i, e, want)
			}
		}
	}
}

// 21.10: with a fence behind each store the log is a play of the lists on plain cells.
func TestWithFences(t *testing.T) {
	rng := rand.New(rand.NewSource(24))
	stores := 0
	for range 3000 {
		s := drawnScene(rng, 0, func(who, used int) []api.Act {
			a := drawn(rng, used)
			if a.Kind == api.AcStore {
				return acts(a, fence)
			}
			return acts(a)
		})
		r := s.play(t)
		m, _ := cells.New(s.size)
		m.Reserve(s.used)
		next := make([]int, len(s.lists)) // by actor: which act of its list the log comes to
		for i, x := range r.Log {
			for refusedOrFence(s.lists[x.Who][next[x.Who]], r.Effects[x.Who][next[x.Who]]) {
				next[x.Who]++
			}
			a, e := s.lists[x.Who][next[x.Who]], r.Effects[x.Who][next[x.Who]]
			next[x.Who]++
			if a.Kind != x.Kind || a.Kind != api.AcReserve && a.Addr != x.Addr || act(m, a) != e {
				t.Fatalf("%+v: the access %d is %v, the act is %v with %v", s, i, x, a, e)
			}
			if a.Kind == api.AcStore {
				stores++
			}
		}
		for who, done := range r.Effects {
			left := 0
			for i := next[who]; i < len(done); i++ {
				if !refusedOrFence(s.lists[who][i], done[i]) {
					left++
				}
			}
			if left != len(r.Waiting[who]) || left > 1 {
				t.Fatalf("%+v: the actor %d: %d acts are not in the log, there wait %v", s, who, left, r.Waiting[who])
			}
		}
		if !slices.Equal(m.Cells(), r.Cells) {
			t.Fatalf("%+v: the cells %v, want %v", s, r.Cells, m.Cells())
		}
	}
	if stores < 1000 {
		t.Errorf("only %d stores", stores)
	}
}

func refusedOrFence(a api.Act, e api.Effect) bool { return a.Kind == api.AcFence || e.Err != api.OK }

// 21.11: where each cell that is stored into is one list's alone the effects are those of the picks' order.
func TestWithoutRaces(t *testing.T) {
	rng := rand.New(rand.NewSource(25))
	own := 0
	for range 3000 {
		s := drawnScene(rng, 5, func(who, used int) []api.Act {
			a := drawn(rng, used)
			if a.Addr >= 0 && a.Addr < 4 {
				a.Addr = who // the cells 0 to 3 are the lists' own
			} else if a.Kind == api.AcStore {
				a.Kind = api.AcAdd
			}
			return acts(a)
		})
		r := s.play(t)
		m, _ := cells.New(s.size)
		m.Reserve(s.used)
		next := make([]int, len(s.lists))
		for _, x := range s.picks {
			who := ops.Mod(x, 2*len(s.lists))
			if who >= len(s.lists) || next[who] >= len(s.lists[who]) {
				continue
			}
			i := next[who]
			next[who]++
			a := s.lists[who][i]
			if e := act(m, a); e != r.Effects[who][i] {
				t.Fatalf("%+v: the actor %d: the effect %d is %v, want %v", s, who, i, r.Effects[who][i], e)
			}
			if a.Kind == api.AcStore {
				own++
			}
		}
	}
	if own < 500 {
		t.Errorf("only %d stores", own)
	}
}
