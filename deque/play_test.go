package deque_test

import (
	"math"
	"math/rand"
	"slices"
	"testing"

	"plunder/api"
	"plunder/deque"
	"plunder/ops"
	"plunder/spy"
)

func push(v int64) api.Todo { return api.Todo{Kind: api.TPush, V: v} }
func pop() api.Todo         { return api.Todo{Kind: api.TPop, V: 55} }

func rep(n, x int) []int { return slices.Repeat([]int{x}, n) }

func seen(who int, a api.Act, v int64) api.Access {
	x := api.Access{Who: who, Kind: a.Kind, Addr: a.Addr, A: a.A, B: a.B, OK: true}
	if a.Kind == api.AcLoad {
		x.A = v
	}
	return x
}

func sameRun(a, b api.DequeRun) bool {
	return slices.Equal(a.Calls, b.Calls) && slices.Equal(a.Rest, b.Rest) && slices.Equal(a.Log, b.Log)
}

// 3.9: the examples 1 to 5, with picks that have to be reduced.
func TestExamples(t *testing.T) {
	todos := []api.Todo{push(7), push(8), push(9), pop()}
	picks := slices.Concat(rep(21, -4), rep(6, math.MaxInt), rep(8, math.MinInt), rep(3, 6))
	log := []api.Access{
		seen(0, spy.Load(1), 0), seen(0, spy.Load(0), 0), seen(0, spy.Load(2), 3), seen(0, spy.Load(3), 1), seen(0, spy.Store(4, 7), 0), seen(0, spy.Store(1, 1), 0),
		seen(0, spy.Load(1), 1), seen(0, spy.Load(0), 0), seen(0, spy.Load(2), 3), seen(0, spy.Load(3), 1),
		{Kind: api.AcReserve, Addr: 5, A: 3, OK: true}, seen(0, spy.Store(5, 2), 0), seen(0, spy.Load(4), 7), seen(0, spy.Store(6, 7), 0), seen(0, spy.Store(2, 5), 0), seen(0, spy.Store(7, 8), 0), seen(0, spy.Store(1, 2), 0),
		seen(0, spy.Load(1), 2), seen(0, spy.Load(0), 0), seen(0, spy.Load(2), 5), seen(0, spy.Load(5), 2),
		seen(1, spy.Load(0), 0), seen(1, spy.Load(1), 2), seen(1, spy.Load(2), 5), seen(1, spy.Load(5), 2), seen(1, spy.Load(6), 7), seen(1, spy.CAS(0, 0, 1), 0),
		seen(0, spy.Load(1), 2), seen(0, spy.Load(2), 5), seen(0, spy.Store(1, 1), 0), seen(0, spy.Load(0), 1), seen(0, spy.Load(5), 2), seen(0, spy.Load(7), 8), seen(0, spy.CAS(0, 1, 2), 0), seen(0, spy.Store(1, 2), 0),
	}
	calls := []api.Call{
		{Who: 0, Kind: api.TPush, Arg: 7, Begin: 0, End: 5, Code: api.Pushed},
		{Who: 0, Kind: api.TPush, Arg: 8, Begin: 6, End: 16, Code: api.Pushed},
		{Who: 0, Kind: api.TPush, Arg: 9, Begin: 17, End: 20, Code: api.Full},
		{Who: 1, Kind: api.TSteal, Begin: 21, End: 26, Code: api.Got, V: 7},
		{Who: 0, Kind: api.TPop, Begin: 27, End: 34, Code: api.Got, V: 8},
	}
	for n := range len(picks) + 1 {
		want := api.DequeRun{Log: log[:min(n, len(log))]}
		for _, c := range calls {
			if c.Begin >= n {
				continue
			}
			if c.End >= n {
				c.End, c.Code, c.V = -1, api.Running, 0
			}
			want.Calls = append(want.Calls, c)
		}
		switch { // the picks behind which BOTTOM or TOP has moved
		case n >= 30: // the pop has lowered BOTTOM
		case n >= 27:
			want.Rest = []int64{8}
		case n >= 17:
			want.Rest = []int64{7, 8}
		case n >= 6:
			want.Rest = []int64{7}
		}
		if r, err := deque.Play(1, 2, todos, 1, picks[:n]); err != api.OK || !sameRun(r, want) {
			t.Errorf("%d picks: %v, %d, want %v", n, r, err, want)
		}
	}
}

// 3.9: the examples 6 and 7.
func TestMoreExamples(t *testing.T) {
	r, err := deque.Play(1, 1, []api.Todo{pop()}, 0, rep(5, 0))
	want := api.DequeRun{
		Calls: []api.Call{{Kind: api.TPop, Begin: 0, End: 4, Code: api.Empty}},
		Log:   []api.Access{seen(0, spy.Load(1), 0), seen(0, spy.Load(2), 3), seen(0, spy.Store(1, -1), 0), seen(0, spy.Load(0), 0), seen(0, spy.Store(1, 0), 0)},
	}
	if err != api.OK || !sameRun(r, want) {
		t.Errorf("a pop of nothing: %v, %d, want %v", r, err, want)
	}
	picks := slices.Concat(rep(6, 0), rep(5, 1), rep(7, 0), []int{1, 0})
	r, err = deque.Play(1, 1, []api.Todo{push(5), pop()}, 1, picks)
	calls := []api.Call{
		{Who: 0, Kind: api.TPush, Arg: 5, Begin: 0, End: 5, Code: api.Pushed},
		{Who: 1, Kind: api.TSteal, Begin: 6, End: 18, Code: api.Lost},
		{Who: 0, Kind: api.TPop, Begin: 11, End: 19, Code: api.Got, V: 5},
	}
	if err != api.OK || !slices.Equal(r.Calls, calls) || len(r.Rest) != 0 || len(r.Log) != len(picks) {
		t.Errorf("a steal that is lost: %v, %d, want %v", r, err, calls)
	}
	if x := r.Log[18]; x != (api.Access{Who: 1, Kind: api.AcCAS, Addr: 0, A: 0, B: 1}) {
		t.Errorf("the CAS that failed: %v", x)
	}
}

// 3.9: what is refused, the first-named error first, and the greatest lists that are not.
func TestPlayRefusals(t *testing.T) {
	long, most := make([]api.Todo, api.MaxTodos+1), make([]api.Todo, api.MaxTodos)
	many := make([]int, api.MaxPicks+1)
	bad := []api.Todo{push(1), {Kind: api.TSteal}}
	for i, c := range []struct {
		first, most int
		todos       []api.Todo
		thieves     int
		picks       []int
		err         api.Errno
	}{
		{0, 1, nil, 0, nil, api.ErrCap}, {2, 1, nil, 9, nil, api.ErrCap}, {1, 4097, bad, -1, nil, api.ErrCap}, {math.MinInt, math.MaxInt, nil, 0, nil, api.ErrCap},
		{1, 1, nil, 4, nil, api.ErrArg}, {1, 1, []api.Todo{{Kind: api.TSteal}}, 4, nil, api.ErrArg}, {1, 1, bad, -1, nil, api.ErrArg}, {1, 1, nil, math.MaxInt, nil, api.ErrArg}, {1, 1, nil, math.MinInt, nil, api.ErrArg},
		{1, 1, []api.Todo{{Kind: api.TSteal}}, 3, nil, api.ErrTodo}, {1, 1, bad, 0, []int{0, 0}, api.ErrTodo}, {1, 1, []api.Todo{{Kind: -1}}, 0, nil, api.ErrTodo}, {1, 1, []api.Todo{{Kind: api.TFinish}}, 0, nil, api.ErrTodo},
		{0, 0, long, 9, nil, api.ErrLong}, {1, 1, long, 0, nil, api.ErrLong}, {0, 0, bad, 9, many, api.ErrLong}, {1, 1, nil, 0, many, api.ErrLong},
		{4096, 4096, most, 3, nil, api.OK}, {1, 1, nil, 0, many[1:], api.OK}, {1, 1, []api.Todo{}, 0, []int{}, api.OK},
	} {
		r, err := deque.Play(c.first, c.most, c.todos, c.thieves, c.picks)
		if err != c.err || len(r.Calls)+len(r.Rest)+len(r.Log) != 0 {
			t.Errorf("the case %d: %v, %d, want %d", i, r, err, c.err)
		}
	}
}

// R3: what is handed in stays as it is, what is handed out is new.
func TestPlayMemory(t *testing.T) {
	todos := []api.Todo{push(7), push(8), pop(), push(9), pop()}
	picks := slices.Concat(rep(20, 0), rep(9, 1), rep(20, -2))
	todos2, picks2 := slices.Clone(todos), slices.Clone(picks)
	first, _ := deque.Play(1, 2, todos[:4], 1, picks[:40])
	kept := api.DequeRun{Calls: slices.Clone(first.Calls), Rest: slices.Clone(first.Rest), Log: slices.Clone(first.Log)}
	for i := range first.Calls {
		first.Calls[i] = api.Call{}
	}
	for i := range first.Log {
		first.Log[i] = api.Access{}
	}
	clear(first.Rest)
	if again, err := deque.Play(1, 2, todos[:4], 1, picks[:40]); err != api.OK || !sameRun(again, kept) {
		t.Errorf("the same play once more: %v, want %v", again, kept)
	}
	if !slices.Equal(todos, todos2) || !slices.Equal(picks, picks2) {
		t.Errorf("what was handed in has changed")
	}
}

// 3.10 to 3.13 for every script of a length, on small deques.
func TestAllScripts(t *testing.T) {
	length := 17
	if testing.Short() {
		length = 12
	}
	// The owner's first push is made ahead, so that the scripts begin where it matters.
	for _, todos := range [][]api.Todo{
		{push(1), push(2), pop(), pop()},
		{push(1), pop(), push(2), pop()},
	} {
		picks := append(rep(6, 0), rep(length, 0)...)
		for code := range 1 << length {
			for i := range length {
				picks[6+i] = code >> i & 1
			}
			checkPlay(t, 1, 2, todos, 1, picks)
			if t.Failed() {
				return
			}
		}
	}
}

// 3.10 to 3.13 for long scripts, with bursts, on deques of all kinds.
func TestLongScripts(t *testing.T) {
	rng := rand.New(rand.NewSource(7))
	rounds := 1500
	if testing.Short() {
		rounds = 200
	}
	for range rounds {
		most := 1 + rng.Intn(9)
		first := 1 + rng.Intn(most)
		pushes := 1 + rng.Intn(4)
		todos := make([]api.Todo, rng.Intn(120))
		for i := range todos {
			todos[i] = pop()
			if rng.Intn(5) < pushes {
				todos[i] = push(int64(i + 1))
			}
		}
		thieves := rng.Intn(api.MaxThieves + 1)
		checkPlay(t, first, most, todos, thieves, spy.Picks(rng.Intn, rng.Intn(900), 1+thieves))
		if t.Failed() {
			return
		}
	}
}

// checkPlay holds a play against 3.9 to 3.13. The elements that are pushed are above 0 and rise.
func checkPlay(t *testing.T, first, most int, todos []api.Todo, thieves int, picks []int) {
	t.Helper()
	r, err := deque.Play(first, most, todos, thieves, picks)
	if err != api.OK {
		t.Errorf("Play: %d", err)
		return
	}
	w := walk{t: t, r: r, most: int64(most), picks: picks, actors: 1 + thieves}
	w.calls(todos)
	w.accesses()
	w.elements()
	w.cells(first)
	if t.Failed() {
		t.Logf("Play(%d, %d, %v, %d, %v) = %+v", first, most, todos, thieves, picks, r)
	}
}

// walk goes through a play that is over.
type walk struct {
	t      *testing.T
	r      api.DequeRun
	most   int64
	picks  []int
	actors int
	log    []int // by pick: which access it made, or -1
}

// callAt tells which call an actor is in at a pick, or -1.
func (w *walk) callAt(who, n int) int {
	for i, c := range w.r.Calls {
		if c.Who == who && c.Begin <= n && (c.End < 0 || n <= c.End) {
			return i
		}
	}
	return -1
}

// calls: in the order of their picks, and as the todos ask for.
func (w *walk) calls(todos []api.Todo) {
	owned, last := 0, -1
	for _, c := range w.r.Calls {
		if c.Begin <= last || c.End >= 0 && c.End <= c.Begin || c.End < 0 && (c.End != -1 || c.Code != api.Running || c.V != 0) {
			w.t.Errorf("the call %v", c)
		}
		last = c.Begin
		want := api.Call{Who: c.Who, Kind: api.TSteal, Begin: c.Begin, End: c.End, Code: c.Code, V: c.V}
		if c.Who == 0 {
			want.Kind = todos[owned].Kind
			if want.Kind == api.TPush {
				want.Arg = todos[owned].V
			}
			owned++
		}
		if c != want {
			w.t.Errorf("the call %v, want %v", c, want)
		}
		if c.Code != api.Got && c.V != 0 {
			w.t.Errorf("a value without an element: %v", c)
		}
	}
}

// accesses: every pick that is not idle makes just one, by its actor; how many a call makes (3.10).
func (w *walk) accesses() {
	n := 0
	counts := make([]int, len(w.r.Calls))
	for i, x := range w.picks {
		who := ops.Mod(x, w.actors)
		call := w.callAt(who, i)
		w.log = append(w.log, -1)
		if call < 0 {
			if who != 0 {
				w.t.Errorf("the pick %d: a thief idles", i)
			}
			continue
		}
		if n >= len(w.r.Log) || w.r.Log[n].Who != who {
			w.t.Errorf("the pick %d: the actor %d made no access", i, who)
			return
		}
		w.log[i] = n
		counts[call]++
		n++
	}
	if n != len(w.r.Log) {
		w.t.Errorf("%d accesses for %d picks that are not idle", len(w.r.Log), n)
	}
	owned, spent := 0, 0
	for i, c := range w.r.Calls {
		bound := map[int]int{api.TPush: 9 + 2*int(w.most), api.TPop: 8, api.TSteal: 6}[c.Kind]
		if counts[i] > bound {
			w.t.Errorf("%d accesses of %v", counts[i], c)
		}
		if c.Who == 0 {
			owned, spent = owned+1, spent+counts[i]
		}
	}
	if spent > 15*owned {
		w.t.Errorf("the owner made %d accesses for %d calls", spent, owned)
	}
}

// elements: none made up, none twice, none lost; thieves get them in their order (3.11).
func (w *walk) elements() {
	where := map[int64]int{}
	for _, v := range w.r.Rest {
		where[v]++
	}
	ended := slices.Clone(w.r.Calls)
	slices.SortFunc(ended, func(a, b api.Call) int { return a.End - b.End })
	stolen, popping := int64(0), false
	for _, c := range ended {
		popping = popping || c.Kind == api.TPop && c.End < 0
		if c.Code != api.Got {
			continue
		}
		where[c.V]++
		if c.Kind == api.TSteal {
			if c.V <= stolen {
				w.t.Errorf("%d was stolen behind %d", c.V, stolen)
			}
			stolen = c.V
		}
	}
	away := 0
	for _, c := range w.r.Calls {
		if c.Code == api.Pushed {
			if where[c.Arg] == 0 {
				away++
			}
			where[c.Arg]--
		}
	}
	for v, n := range where {
		if n > 0 {
			w.t.Errorf("the element %d was made up, or taken twice", v)
		}
	}
	if away > 1 || away == 1 && !popping {
		w.t.Errorf("%d elements are lost", away)
	}
}

// cells goes through the log with the cells as they stood at each access (3.12, 3.13).
func (w *walk) cells(first int) {
	held := map[int]int64{2: 3, 3: int64(first)}
	gone := map[int]bool{}
	size := map[int]int64{} // by call of the owner: what the deque held when it loaded TOP
	cas := map[int]bool{}   // by pick: whether it was a CAS that did it
	for i, n := range w.log {
		if n < 0 {
			continue
		}
		x := w.r.Log[n]
		call := w.callAt(x.Who, i)
		switch x.Kind {
		case api.AcLoad:
			if x.A != held[x.Addr] {
				w.t.Errorf("the access %d: a load of %d told %d, not %d", n, x.Addr, x.A, held[x.Addr])
			}
			if w.r.Calls[call].Kind == api.TPush && x.Addr == 0 {
				size[call] = held[1] - held[0]
			}
		case api.AcStore:
			if gone[x.Addr] {
				w.t.Errorf("the access %d: a store into a buffer that has been given up", n)
			}
			if x.Addr == 2 {
				for k := range 1 + int(held[int(held[2])]) {
					gone[int(held[2])+k] = true
				}
			}
			held[x.Addr] = x.A
		case api.AcCAS:
			cas[i] = x.OK
			w.fewest(w.r.Calls[call], held)
			if x.OK {
				held[x.Addr] = x.B
			}
		case api.AcReserve:
			if want := 1 + min(2*held[int(held[2])], w.most); x.A != want {
				w.t.Errorf("the access %d: a buffer of %d cells, want %d", n, x.A, want)
			}
		default:
			w.t.Errorf("the access %d: %v", n, x)
		}
		if held[1]-held[0] > w.most {
			w.t.Errorf("the access %d: the deque holds %d elements", n, held[1]-held[0])
		}
	}
	w.fates(size, cas)
	w.rest(held)
}

// fewest: a pop's CAS is for the last element alone.
func (w *walk) fewest(c api.Call, held map[int]int64) {
	if c.Kind == api.TPop && held[1]-held[0] > 0 { // BOTTOM is lowered by then
		w.t.Errorf("a CAS of a pop with %d elements more: %v", held[1]-held[0], c)
	}
}

// fates: full just if it holds the most; lost just if another's CAS did it meanwhile.
func (w *walk) fates(size map[int]int64, cas map[int]bool) {
	for i, c := range w.r.Calls {
		if c.Kind == api.TPush && c.End >= 0 && (c.Code == api.Full) != (size[i] == w.most) {
			w.t.Errorf("%v with %d elements", c, size[i])
		}
		if c.Code != api.Lost {
			continue
		}
		another := false
		for n := c.Begin + 1; n < c.End; n++ {
			another = another || cas[n] && ops.Mod(w.picks[n], w.actors) != c.Who
		}
		if !another {
			w.t.Errorf("%v lost to nobody", c)
		}
	}
}

// rest: what lies between TOP and BOTTOM, as the cells stand.
func (w *walk) rest(held map[int]int64) {
	var want []int64
	for i := held[0]; i < held[1]; i++ {
		a := int(held[2])
		want = append(want, held[a+1+ops.Mod(int(i), int(held[a]))])
	}
	if !slices.Equal(w.r.Rest, want) {
		w.t.Errorf("the rest %v, want %v", w.r.Rest, want)
	}
}

// The greatest play: as many todos, picks and thieves as there may be.
func TestGreatestPlay(t *testing.T) {
	todos := make([]api.Todo, api.MaxTodos)
	for i := range todos {
		todos[i] = push(int64(i))
	}
	picks := make([]int, api.MaxPicks)
	for i := range picks {
		if i >= 1<<16 {
			picks[i] = i
		}
	}
	r, err := deque.Play(1, api.MaxDeque, todos, api.MaxThieves, picks)
	idle := 1<<16 - 4096*6 - 12*3 - 2*4095 + (1<<20-1<<16)/4 // each growth from 1 to 4096 makes three accesses and two an element more
	if err != api.OK || len(r.Rest) != 0 || len(r.Log) != 1<<20-idle {
		t.Errorf("%d left, %d accesses, want %d, %d", len(r.Rest), len(r.Log), 1<<20-idle, err)
	}
	got := 0
	for _, c := range r.Calls {
		if c.Code == api.Got {
			got++
		}
	}
	if got != api.MaxTodos {
		t.Errorf("%d were stolen", got)
	}
}
