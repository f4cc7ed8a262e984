package buffers_test

import (
	"math"
	"math/rand"
	"slices"
	"testing"

	"plunder/api"
	"plunder/buffers"
	"plunder/deque"
	"plunder/ops"
	"plunder/spy"
)

func push(v int64) api.Todo { return api.Todo{Kind: api.TPush, V: v} }
func pop() api.Todo         { return api.Todo{Kind: api.TPop, V: 55} }

func rep(n, x int) []int { return slices.Repeat([]int{x}, n) }

func sameDeque(a, b api.DequeRun) bool {
	return slices.Equal(a.Calls, b.Calls) && slices.Equal(a.Rest, b.Rest) && slices.Equal(a.Log, b.Log)
}

// 21.12: the example 6, with and without the fence, access by access from the pop on.
func TestDequeExample(t *testing.T) {
	todos := []api.Todo{push(1), push(2), pop()}
	picks := slices.Concat(rep(12, 0), rep(4, -2), rep(4, 4), rep(12, -3), rep(4, math.MaxInt-3))
	for i, c := range []struct {
		fenced bool
		calls  []api.Call
		log    []api.Access
	}{
		{false, []api.Call{
			{Kind: api.TPop, Begin: 16, End: 33, Code: api.Got, V: 2},
			{Who: 1, Kind: api.TSteal, Begin: 20, End: 25, Code: api.Got, V: 1},
			{Who: 1, Kind: api.TSteal, Begin: 26, End: 31, Code: api.Got, V: 2},
		}, []api.Access{
			seen(0, api.AcLoad, 1, 2, 0), seen(0, api.AcLoad, 2, 3, 0), seen(0, api.AcLoad, 0, 0, 0),
			seen(1, api.AcLoad, 0, 0, 0), seen(1, api.AcLoad, 1, 2, 0), seen(1, api.AcLoad, 2, 3, 0), seen(1, api.AcLoad, 3, 4, 0), seen(1, api.AcLoad, 4, 1, 0), seen(1, api.AcCAS, 0, 0, 1),
			seen(1, api.AcLoad, 0, 1, 0), seen(1, api.AcLoad, 1, 2, 0), seen(1, api.AcLoad, 2, 3, 0), seen(1, api.AcLoad, 3, 4, 0), seen(1, api.AcLoad, 5, 2, 0), seen(1, api.AcCAS, 0, 1, 2),
			seen(0, api.AcLoad, 3, 4, 0), seen(0, api.AcLoad, 5, 2, 0), seen(0, api.AcStore, 1, 1, 0),
		}},
		{true, []api.Call{
			{Kind: api.TPop, Begin: 16, End: 33, Code: api.Got, V: 2},
			{Who: 1, Kind: api.TSteal, Begin: 20, End: 25, Code: api.Got, V: 1},
			{Who: 1, Kind: api.TSteal, Begin: 26, End: 27, Code: api.Empty},
			{Who: 1, Kind: api.TSteal, Begin: 28, End: 29, Code: api.Empty},
			{Who: 1, Kind: api.TSteal, Begin: 30, End: 31, Code: api.Empty},
		}, []api.Access{
			seen(0, api.AcLoad, 1, 2, 0), seen(0, api.AcLoad, 2, 3, 0), seen(0, api.AcStore, 1, 1, 0), seen(0, api.AcLoad, 0, 0, 0),
			seen(1, api.AcLoad, 0, 0, 0), seen(1, api.AcLoad, 1, 1, 0), seen(1, api.AcLoad, 2, 3, 0), seen(1, api.AcLoad, 3, 4, 0), seen(1, api.AcLoad, 4, 1, 0), seen(1, api.AcCAS, 0, 0, 1),
			seen(1, api.AcLoad, 0, 1, 0), seen(1, api.AcLoad, 1, 1, 0), seen(1, api.AcLoad, 0, 1, 0), seen(1, api.AcLoad, 1, 1, 0), seen(1, api.AcLoad, 0, 1, 0), seen(1, api.AcLoad, 1, 1, 0),
			seen(0, api.AcLoad, 3, 4, 0), seen(0, api.AcLoad, 5, 2, 0),
		}},
	} {
		r, err := buffers.Deque(4, 4, todos, 1, 8, c.fenced, picks)
		calls := append([]api.Call{{Kind: api.TPush, Arg: 1, End: 5, Code: api.Pushed}, {Kind: api.TPush, Arg: 2, Begin: 6, End: 11, Code: api.Pushed}}, c.calls...)
		if err != api.OK || !slices.Equal(r.Calls, calls) || len(r.Rest) != 0 {
			t.Errorf("example %d: %v, %v, %d\nwant %v", i, r.Calls, r.Rest, err, calls)
		}
		if len(r.Log) < len(c.log) || !slices.Equal(r.Log[len(r.Log)-len(c.log):], c.log) {
			t.Errorf("example %d: the log %v, want at its end %v", i, r.Log, c.log)
		}
	}
}

// 21.12: the stores of New are in no log and wait nowhere; those that wait at the end are told behind all else, and count for the rest.
func TestDequeEnds(t *testing.T) {
	for room := 1; room <= 3; room++ {
		r, err := buffers.Deque(1, 1, []api.Todo{push(9)}, 1, room, false, rep(2, 1))
		if err != api.OK || len(r.Rest) != 0 || !slices.Equal(r.Log, []api.Access{seen(1, api.AcLoad, 0, 0, 0), seen(1, api.AcLoad, 1, 0, 0)}) {
			t.Errorf("a steal of nothing: %v, %d", r, err)
		}
		// The pick 5 is the owner's, too, and the pick 6 a flush: the owner alone has these two kinds of picks.
		r, err = buffers.Deque(1, 1, []api.Todo{push(9)}, 0, room, true, []int{0, 0, 0, 0, 0, 2, 1, 0})
		want := api.DequeRun{
			Calls: []api.Call{{Kind: api.TPush, Arg: 9, End: 5, Code: api.Pushed}},
			Rest:  []int64{9},
			Log:   []api.Access{seen(0, api.AcLoad, 1, 0, 0), seen(0, api.AcLoad, 0, 0, 0), seen(0, api.AcLoad, 2, 3, 0), seen(0, api.AcLoad, 3, 1, 0), seen(0, api.AcStore, 4, 9, 0), seen(0, api.AcStore, 1, 1, 0)},
		}
		if err != api.OK || !sameDeque(r, want) {
			t.Errorf("a push: %v, %d, want %v", r, err, want)
		}
	}
}

// play is a script on one deque.
type play struct {
	first, most   int
	todos         []api.Todo
	thieves, room int
	fenced        bool
	picks         []int
}

func (p play) run(t *testing.T) api.DequeRun {
	t.Helper()
	r, err := buffers.Deque(p.first, p.most, p.todos, p.thieves, p.room, p.fenced, p.picks)
	if err != api.OK {
		t.Fatalf("%+v: error %d", p, err)
	}
	return r
}

// drawnPlay draws one that pushes rising values.
func drawnPlay(rng *rand.Rand) play {
	p := play{most: 1 + rng.Intn(9), thieves: rng.Intn(api.MaxThieves + 1), room: 1 + rng.Intn(6), fenced: rng.Intn(2) == 0}
	if rng.Intn(5) == 0 {
		p.room = api.MaxRoom
	}
	p.first = 1 + rng.Intn(p.most)
	p.todos = make([]api.Todo, rng.Intn(80))
	pushes := 1 + rng.Intn(4)
	for i := range p.todos {
		p.todos[i] = pop()
		if rng.Intn(5) < pushes {
			p.todos[i] = push(int64(i + 1))
		}
	}
	p.picks = spy.Picks(rng.Intn, rng.Intn(700), 2*(1+p.thieves))
	return p
}

// modelPlay is a play on the model's memory, on its way.
type modelPlay struct {
	play
	m        *model
	d        deque.Deque
	machines []deque.Op
	call     []int // by actor: which call its machine is
	r        api.DequeRun
}

// byModel is what a play comes to by the chapter's words.
func (p play) byModel() api.DequeRun {
	w := modelPlay{play: p, m: &model{size: 1000, room: p.room}, machines: make([]deque.Op, 1+p.thieves), call: make([]int, 1+p.thieves)}
	w.d, _ = deque.New(modelView{w.m, 0}, p.first, p.most)
	w.m.drain(0)
	w.m.log = nil
	for n, x := range p.picks {
		if k := ops.Mod(x, 2*(1+p.thieves)); k <= p.thieves {
			w.pick(n, k)
		} else {
			w.m.flush(k - 1 - p.thieves)
		}
	}
	for who := range 1 + p.thieves {
		w.m.drain(who)
	}
	held := w.m.cells
	for i := held[0]; i < held[1]; i++ {
		buffer := int(held[2])
		w.r.Rest = append(w.r.Rest, held[buffer+1+ops.Mod(int(i), int(held[buffer]))])
	}
	w.r.Log = w.m.log
	return w.r
}

func (w *modelPlay) pick(n, who int) {
	if code, _ := deque.Answer(w.machines[who]); code != api.Running && !w.begin(n, who) {
		return
	}
	call := &w.r.Calls[w.call[who]]
	s := spy.New(modelView{w.m, who})
	w.machines[who] = deque.Step(s, w.machines[who])
	if w.fenced && call.Kind == api.TPop && s.Asked[0].Kind == api.AcStore {
		w.m.drain(0)
	}
	if code, v := deque.Answer(w.machines[who]); code != api.Running {
		call.End, call.Code, call.V = n, code, v
	}
}

func (w *modelPlay) begin(n, who int) bool {
	call := api.Call{Who: who, Kind: api.TSteal, Begin: n, End: -1, Code: api.Running}
	o := deque.Steal(w.d)
	if who == 0 {
		if len(w.todos) == 0 {
			return false
		}
		call.Kind, o = api.TPop, deque.Pop(w.d)
		if next := w.todos[0]; next.Kind == api.TPush {
			call.Kind, call.Arg, o = api.TPush, next.V, deque.Push(w.d, next.V)
		}
		w.todos = w.todos[1:]
	}
	w.machines[who], w.call[who] = o, len(w.r.Calls)
	w.r.Calls = append(w.r.Calls, call)
	return true
}

// 21.12, 21.13, 21.16
func TestDequeIsAsTheModel(t *testing.T) {
	rng := rand.New(rand.NewSource(28))
	rounds, twice := 4000, 0
	if testing.Short() {
		rounds = 500
	}
	for range rounds {
		p := drawnPlay(rng)
		todos, picks := slices.Clone(p.todos), slices.Clone(p.picks)
		want := p.byModel()
		for range 2 {
			r := p.run(t)
			if !sameDeque(r, want) {
				t.Fatalf("%+v: %+v\nwant %+v", p, r, want)
			}
			clear(r.Calls)
			clear(r.Rest)
			clear(r.Log)
		}
		if !slices.Equal(p.todos, todos) || !slices.Equal(p.picks, picks) {
			t.Fatalf("what was handed in has changed")
		}
		fault := lostOrTwice(want)
		if fault != "" && p.fenced {
			t.Fatalf("%+v: %+v: %s", p, want, fault)
		}
		if fault != "" {
			twice++
		}
	}
	if twice < rounds/250 {
		t.Errorf("only %d of %d plays go wrong where some have no fence", twice, rounds)
	}
}

// lostOrTwice tells what is wrong with what was got, by 21.13.
func lostOrTwice(r api.DequeRun) string {
	where := map[int64]int{}
	for _, v := range r.Rest {
		where[v]++
	}
	popping := 0
	for _, c := range r.Calls {
		if c.Code == api.Got {
			where[c.V]++
		}
		if c.Kind == api.TPop && c.End < 0 {
			popping++
		}
	}
	for _, c := range r.Calls {
		if c.Code != api.Pushed {
			continue
		}
		switch n := where[c.Arg]; {
		case n == 0 && popping == 0:
			return "an element is lost"
		case n == 0:
			popping--
		case n > 1:
			return "an element was got twice, or is still there"
		}
		delete(where, c.Arg)
	}
	if len(where) > 0 {
		return "an element was got that was not pushed"
	}
	return ""
}

// P15, 21.13: in all ways in which a pop may be overtaken: what has come into the cells ahead of it, how far it gets, how many steps the thief makes, and what comes into the cells in between.
func TestOneFenceSuffices(t *testing.T) {
	const owner, thief, flush = 0, 1, 2
	todos := []api.Todo{push(1), push(2), pop(), pop(), push(3), pop()}
	wrong := 0
	for _, fenced := range []bool{true, false} {
		for code := range 5 * 17 * 3 * 13 * 13 {
			digit := func(n int) int {
				d := code % n
				code /= n
				return d
			}
			p := play{first: 1, most: 2, todos: todos, thieves: 1, room: 8, fenced: fenced}
			p.picks = slices.Concat(rep(17, owner), rep(4+digit(5), flush), rep(digit(17), owner), rep(digit(13), thief), rep(digit(3), flush), rep(digit(13), thief), rep(40, owner), rep(9, flush), rep(7, thief))
			fault := lostOrTwice(p.run(t))
			if fault != "" && fenced {
				t.Fatalf("%+v: %s", p, fault)
			}
			if fault != "" {
				wrong++
			}
		}
	}
	if wrong == 0 {
		t.Errorf("without the fence nothing goes wrong")
	}
}

// P15, 21.14
func TestTwice(t *testing.T) {
	for range 2 {
		todos, thieves, picks := buffers.Twice()
		values := map[int64]int{}
		for _, x := range todos {
			if x.Kind == api.TPush {
				values[x.V]++
			}
			if x.Kind == api.TPush && (x.V < 0 || values[x.V] > 1) {
				t.Errorf("the todos %v", todos)
			}
		}
		p := play{4, 4, todos, thieves, 8, false, picks}
		got, twice := map[int64]int{}, false
		for _, c := range p.run(t).Calls {
			if c.Code == api.Got {
				got[c.V]++
				twice = twice || got[c.V] == 2
			}
		}
		if !twice {
			t.Errorf("%+v: nothing is got twice", p)
		}
		p.fenced = true
		if fault := lostOrTwice(p.run(t)); fault != "" {
			t.Errorf("%+v: %s", p, fault)
		}
		clear(todos)
		clear(picks)
	}
}

// 21.15
func TestPrompt(t *testing.T) {
	rng := rand.New(rand.NewSource(29))
	for range 1500 {
		p := drawnPlay(rng)
		actors := 1 + p.thieves
		plain := spy.Picks(rng.Intn, rng.Intn(500), actors)
		p.picks = nil
		for _, x := range plain {
			who := ops.Mod(x, actors)
			p.picks = append(p.picks, who-2*actors*rng.Intn(3), who+actors+2*actors*rng.Intn(3))
		}
		want, _ := deque.Play(p.first, p.most, p.todos, p.thieves, plain)
		for i := range want.Calls {
			c := &want.Calls[i]
			c.Begin *= 2
			if c.End >= 0 {
				c.End *= 2
			}
		}
		if r := p.run(t); !sameDeque(r, want) {
			t.Fatalf("%+v: %+v\nwant %+v", p, r, want)
		}
	}
}

// 21.12: what is refused, the first-named error first.
func TestDequeRefusals(t *testing.T) {
	long, many := make([]api.Todo, api.MaxTodos+1), make([]int, api.MaxPicks+1)
	bad := []api.Todo{push(1), {Kind: api.TSteal}}
	for i, c := range []struct {
		p   play
		err api.Errno
	}{
		{play{0, 0, long, 9, 0, true, nil}, api.ErrLong}, {play{0, 0, bad, 9, 0, true, many}, api.ErrLong}, {play{1, 1, long, 1, 1, false, nil}, api.ErrLong}, {play{1, 1, nil, 1, 1, false, many}, api.ErrLong},
		{play{0, 1, bad, 9, 0, true, nil}, api.ErrCap}, {play{2, 1, bad, -1, 65, false, nil}, api.ErrCap}, {play{1, 4097, nil, 1, 1, true, nil}, api.ErrCap}, {play{math.MinInt, math.MaxInt, nil, 1, 1, true, nil}, api.ErrCap},
		{play{1, 1, bad, 4, 0, true, nil}, api.ErrArg}, {play{1, 1, bad, -1, 65, true, nil}, api.ErrArg}, {play{1, 1, nil, math.MaxInt, 1, true, nil}, api.ErrArg}, {play{1, 1, nil, math.MinInt, 1, true, nil}, api.ErrArg},
		{play{1, 1, bad, 3, 0, true, nil}, api.ErrTodo}, {play{1, 1, []api.Todo{{Kind: -1}}, 0, 65, true, nil}, api.ErrTodo}, {play{1, 1, bad, 0, 1, false, nil}, api.ErrTodo},
		{play{1, 1, nil, 0, 0, true, nil}, api.ErrView}, {play{1, 1, nil, 3, 65, false, many[1:]}, api.ErrView}, {play{1, 1, nil, 3, -1, true, nil}, api.ErrView}, {play{1, 1, nil, 3, math.MaxInt, true, nil}, api.ErrView}, {play{1, 1, nil, 3, math.MinInt, true, nil}, api.ErrView},
		{play{1, 4096, long[1:], 3, 64, true, nil}, api.OK}, {play{4096, 4096, nil, 0, 1, false, many[1:]}, api.OK},
	} {
		r, err := buffers.Deque(c.p.first, c.p.most, c.p.todos, c.p.thieves, c.p.room, c.p.fenced, c.p.picks)
		if err != c.err || len(r.Calls)+len(r.Rest)+len(r.Log) != 0 {
			t.Errorf("refusal %d: %v, %d, want %d", i, r, err, c.err)
		}
	}
}

// The greatest play: as many todos, picks and thieves as there may be, and a deque that grows as often as it can while stores wait.
func TestGreatestDeque(t *testing.T) {
	p := play{first: 1, most: api.MaxDeque, thieves: api.MaxThieves, room: api.MaxRoom, fenced: true}
	for i := range api.MaxTodos {
		p.todos = append(p.todos, push(int64(i)))
	}
	p.picks = make([]int, api.MaxPicks)
	for i := range p.picks {
		if i >= 1<<16 {
			p.picks[i] = i
		}
	}
	r := p.run(t)
	got := 0
	for _, c := range r.Calls {
		if c.Code == api.Got {
			got++
		}
	}
	if fault := lostOrTwice(r); fault != "" || got != api.MaxTodos || len(r.Rest) != 0 {
		t.Errorf("%d were stolen, %d are left: %s", got, len(r.Rest), fault)
	}
}
