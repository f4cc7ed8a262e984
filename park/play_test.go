package park_test

import (
	"math"
	"math/rand"
	"slices"
	"testing"

	"plunder/api"
	"plunder/park"
	"plunder/spy"
)

func sameRun(a, b api.ParkRun) bool {
	return slices.Equal(a.Taken, b.Taken) && slices.Equal(a.Left, b.Left) && slices.Equal(a.States, b.States) && slices.Equal(a.Flags, b.Flags) && a.Sleepers == b.Sleepers && a.Done == b.Done && a.Woken == b.Woken && a.Between == b.Between && slices.Equal(a.Log, b.Log)
}

func push(v int64) api.Todo { return api.Todo{Kind: api.TPush, V: v} }

var pop, finish = api.Todo{Kind: api.TPop, V: 5}, api.Todo{Kind: api.TFinish, V: 5}

func rep(n, who int) []int { return slices.Repeat([]int{who}, n) }

// seen is an access by somebody that was not refused: v is what a Load read or an Add came to.
func seen(who int, a api.Act, v int64) api.Access {
	x := api.Access{Who: who, Kind: a.Kind, Addr: a.Addr, A: a.A, B: a.B, OK: true}
	switch a.Kind {
	case api.AcLoad:
		x.A = v
	case api.AcAdd:
		x.B = v
	case api.AcCAS:
		x.OK = v == 1
	}
	return x
}

// restsAlone is example 3's log, as far as the sleeper is parked.
func restsAlone() []api.Access {
	return []api.Access{seen(1, spy.Store(3, 1), 0), seen(1, spy.Add(0, 1), 1), seen(1, spy.Load(1), 0), seen(1, spy.Load(4), 0), seen(1, spy.Load(5), 0)}
}

// pushes is the log of the first push, into a deque at 4.
func pushes(v int64) []api.Access {
	return []api.Access{seen(0, spy.Load(5), 0), seen(0, spy.Load(4), 0), seen(0, spy.Load(6), 7), seen(0, spy.Load(7), 1), seen(0, spy.Store(8, v), 0), seen(0, spy.Store(5, 1), 0)}
}

// 9.8: the examples 3 to 5 and 7, with their logs.
func TestPlayExamples(t *testing.T) {
	nine := []api.Todo{push(9)}
	woken := slices.Concat(restsAlone(), pushes(9), []api.Access{seen(0, spy.Load(0), 1), seen(0, spy.CAS(3, 1, 0), 1), seen(0, spy.Add(0, -1), 0)})
	steals := []api.Access{seen(1, spy.Load(3), 0), seen(1, spy.Load(4), 0), seen(1, spy.Load(5), 1), seen(1, spy.Load(6), 7), seen(1, spy.Load(7), 1), seen(1, spy.Load(8), 9), seen(1, spy.CAS(4, 0, 1), 1)}
	late := slices.Concat(restsAlone()[:1], pushes(9), []api.Access{seen(0, spy.Load(0), 0)}, restsAlone()[1:4], []api.Access{seen(1, spy.Load(5), 1), seen(1, spy.CAS(3, 1, 0), 1), seen(1, spy.Add(0, -1), 0)})
	for i, c := range []struct {
		todos []api.Todo
		picks []int
		want  api.ParkRun
	}{
		{nil, rep(6, 1), api.ParkRun{States: []int{api.SParked}, Flags: []int64{0, 1}, Sleepers: 1, Between: true, Log: append(restsAlone(), seen(1, spy.Load(3), 1))}},
		{nine, slices.Concat(rep(5, 1), rep(9, 0)), api.ParkRun{Left: []int64{9}, States: []int{api.SParked}, Flags: []int64{0, 0}, Woken: 1, Between: true, Log: woken}},
		{nine, slices.Concat(rep(5, 1), rep(9, 0), rep(1, 1)), api.ParkRun{Left: []int64{9}, States: []int{api.SStealing}, Flags: []int64{0, 0}, Woken: 1, Between: true, Log: slices.Concat(woken, steals[:1])}},
		{nine, slices.Concat(rep(5, 1), rep(9, 0), rep(6, 1)), api.ParkRun{Left: []int64{9}, States: []int{api.SStealing}, Flags: []int64{0, 0}, Woken: 1, Between: true, Log: slices.Concat(woken, steals[:6])}},
		{nine, slices.Concat(rep(5, 1), rep(9, 0), rep(7, 1)), api.ParkRun{Taken: []api.Take{{Who: 1, V: 9}}, States: []int{api.SResting}, Flags: []int64{0, 0}, Woken: 1, Between: true, Log: slices.Concat(woken, steals)}},
		{nine, slices.Concat(rep(1, 1), rep(7, 0), rep(5, 1)), api.ParkRun{Left: []int64{9}, States: []int{api.SResting}, Flags: []int64{0, 0}, Sleepers: 1, Between: true, Log: late[:13]}},
		{nine, slices.Concat(rep(1, 1), rep(7, 0), rep(6, 1)), api.ParkRun{Left: []int64{9}, States: []int{api.SStealing}, Flags: []int64{0, 0}, Between: true, Log: late}},
		{[]api.Todo{finish}, slices.Concat(rep(2, 0), rep(5, 1)), api.ParkRun{States: []int{api.SHalted}, Flags: []int64{0, 0}, Done: 1, Between: true, Log: []api.Access{
			seen(0, spy.Store(1, 1), 0), seen(0, spy.CAS(3, 1, 0), 0), seen(1, spy.Store(3, 1), 0), seen(1, spy.Add(0, 1), 1), seen(1, spy.Load(1), 1), seen(1, spy.CAS(3, 1, 0), 1), seen(1, spy.Add(0, -1), 0)}}},
		{nil, nil, api.ParkRun{States: []int{api.SResting}, Flags: []int64{0, 0}, Between: true}},
		{[]api.Todo{pop}, rep(1, 0), api.ParkRun{States: []int{api.SResting}, Flags: []int64{0, 0}, Log: []api.Access{seen(0, spy.Load(5), 0)}}},
	} {
		if r, err := park.Play(1, 1, 1, c.todos, c.picks); err != api.OK || !sameRun(r, c.want) {
			t.Errorf("9.8, case %d: Play(1, 1, 1, %v, %v) = %+v, %d, want %+v", i, c.todos, c.picks, r, err, c.want)
		}
	}
}

// 9.8: example 6, and a push that is full: it is not followed by a wake.
func TestBetween(t *testing.T) {
	r, err := park.Play(1, 1, 2, []api.Todo{push(9)}, slices.Concat(rep(1, 1), rep(6, 0)))
	if err != api.OK || r.Between || !slices.Equal(r.Flags, []int64{0, 1, 0}) || !slices.Equal(r.States, []int{0, 0}) {
		t.Errorf("9.8, example 6: %+v, %d", r, err)
	}
	two := []api.Todo{push(9), push(8)}
	for n, between := range []bool{true, false, false, false, false, false, false, true, false, false, false, true, true} {
		if r, err := park.Play(1, 1, 0, two, rep(n, 0)); err != api.OK || r.Between != between || len(r.Log) != min(n, 11) {
			t.Errorf("9.8: behind %d picks: %+v, %d", n, r, err)
		}
	}
}

// 9.8 and example 8: what is refused, the first-named error first, and the greatest lists that are not.
func TestPlayRefusals(t *testing.T) {
	long, most := make([]api.Todo, api.MaxTodos+1), make([]api.Todo, api.MaxTodos)
	many := make([]int, api.MaxPicks+1)
	bad := []api.Todo{{Kind: api.TSteal}}
	for i, c := range []struct {
		first, most, sleepers int
		todos                 []api.Todo
		picks                 []int
		err                   api.Errno
	}{
		{1, 1, 8, bad, nil, api.ErrArg}, {1, 1, -1, bad, nil, api.ErrArg}, {1, 1, math.MaxInt, nil, nil, api.ErrArg}, {1, 1, math.MinInt, nil, nil, api.ErrArg},
		{1, 1, 7, bad, nil, api.ErrTodo}, {1, 1, 0, []api.Todo{push(1), pop, finish, {Kind: -1}}, many[1:], api.ErrTodo}, {1, 1, 1, []api.Todo{{Kind: 4}}, nil, api.ErrTodo}, {1, 1, 1, []api.Todo{{Kind: math.MinInt}}, nil, api.ErrTodo},
		{0, 1, 8, bad, nil, api.ErrCap}, {2, 1, 0, nil, nil, api.ErrCap}, {1, 4097, 0, nil, nil, api.ErrCap}, {-1, 5, 0, nil, nil, api.ErrCap}, {0, 0, -3, nil, nil, api.ErrCap}, {math.MinInt, math.MaxInt, 0, nil, nil, api.ErrCap},
		{0, 0, 8, long, nil, api.ErrLong}, {1, 1, 1, long, nil, api.ErrLong}, {0, 0, 8, bad, many, api.ErrLong}, {1, 1, 1, nil, many, api.ErrLong},
		{4096, 4096, 7, most, nil, api.OK}, {1, 4096, 0, []api.Todo{finish, pop, push(0)}, many[1:], api.OK}, {1, 1, 0, []api.Todo{}, []int{}, api.OK},
	} {
		r, err := park.Play(c.first, c.most, c.sleepers, c.todos, c.picks)
		if err != c.err || err != api.OK && !sameRun(r, api.ParkRun{}) {
			t.Errorf("9.8, case %d: %+v, %d, want %d", i, r, err, c.err)
		}
	}
}

// scene is what a play is given, its picks aside.
type scene struct {
	first, most, sleepers int
	todos                 []api.Todo
}

func (s scene) play(picks []int) (api.ParkRun, api.Errno) {
	return park.Play(s.first, s.most, s.sleepers, s.todos, picks)
}

// checkPlay holds a play against the model and against what follows for every play.
func checkPlay(t *testing.T, s scene, picks []int) api.ParkRun {
	t.Helper()
	r, err := s.play(picks)
	want, longest := modelled(s.first, s.most, s.sleepers, s.todos, picks)
	if longest > 0 {
		t.Fatalf("9.13: %+v, %v: a machine makes %d accesses too many", s, picks, longest)
	}
	if err != api.OK || !sameRun(r, want) {
		t.Fatalf("9.8: %+v, %v: %+v, %d, want %+v", s, picks, r, err, want)
	}
	for _, fault := range []string{lostWake(r), miscount(r), halts(r), manyWoken(s, r)} {
		if fault != "" {
			t.Fatalf("%s: %+v, %v: %+v", fault, s, picks, r)
		}
	}
	return r
}

func lostWake(r api.ParkRun) string {
	if !r.Between || r.Done != 0 || len(r.Left) == 0 || len(r.States) == 0 {
		return ""
	}
	for i, state := range r.States {
		if state != api.SParked || r.Flags[1+i] != 1 {
			return ""
		}
	}
	return "9.9: all are asleep"
}

func miscount(r api.ParkRun) string {
	if !r.Between || slices.Contains(r.States, api.SResting) {
		return ""
	}
	up := int64(0)
	for i, flag := range r.Flags {
		if flag == 1 {
			up++
		}
		if flag == 1 && (i == 0 || r.States[i-1] != api.SParked) {
			return "9.10: a flag is up of one that is not parked"
		}
	}
	if up != r.Sleepers {
		return "9.10: SLEEPERS is not the number of flags"
	}
	return ""
}

func halts(r api.ParkRun) string {
	for _, state := range r.States {
		if state != api.SHalted {
			return ""
		}
	}
	if r.Between && (r.Sleepers != 0 || slices.Contains(r.Flags, 1)) {
		return "9.12: all have halted, and sleepers are counted"
	}
	return ""
}

// manyWoken: a wake begins with a Load of SLEEPERS, and wakes at most one.
func manyWoken(s scene, r api.ParkRun) string {
	wakes, woken := 0, 0
	for _, x := range r.Log {
		if x.Who != 0 {
			continue
		}
		if x.Kind == api.AcLoad && x.Addr == 0 {
			wakes, woken = wakes+1, 0
		}
		if x.Kind == api.AcStore && x.Addr == 1 { // a finish wakes all
			woken = -s.sleepers
		}
		if x.Kind == api.AcCAS && x.Addr < 2+len(r.Flags) && x.OK {
			woken++
		}
		if woken > 1 {
			return "9.13: a push wakes two"
		}
	}
	if r.Woken > wakes {
		return "9.13: more are woken than there are wakes"
	}
	return ""
}

// 9.8 to 9.13 for every script of some small plays, and all that they begin with.
func TestAllScripts(t *testing.T) {
	length := 13
	if testing.Short() {
		length = 10
	}
	one, two := []api.Todo{push(1)}, []api.Todo{push(1), push(2), pop}
	for _, c := range []struct {
		scene
		ahead  []int
		length int
	}{
		{scene{1, 1, 1, one}, nil, length},
		{scene{1, 1, 1, one}, rep(3, 1), length},
		{scene{1, 1, 1, one}, slices.Concat(rep(5, 0), rep(3, 1)), length},
		{scene{1, 1, 1, one}, slices.Concat(rep(5, 1), rep(6, 0)), length},
		{scene{1, 1, 1, []api.Todo{finish}}, nil, length},
		{scene{1, 1, 1, []api.Todo{finish}}, rep(2, 1), length},
		{scene{1, 2, 1, two}, slices.Concat(rep(9, 0), rep(2, 1)), length},
		{scene{1, 2, 1, two}, slices.Concat(rep(5, 1), rep(9, 0), rep(5, 1)), length},
		{scene{1, 1, 1, []api.Todo{push(1), finish}}, slices.Concat(rep(4, 1), rep(5, 0)), length},
		{scene{1, 1, 2, one}, slices.Concat(rep(5, 0), rep(5, 1), rep(5, 2)), length * 2 / 3},
		{scene{1, 1, 2, one}, slices.Concat(rep(6, 0), rep(7, 1), rep(1, 2)), length * 2 / 3},
		{scene{1, 1, 2, []api.Todo{finish}}, slices.Concat(rep(5, 1), rep(1, 2)), length * 2 / 3},
		{scene{1, 1, 0, []api.Todo{push(1), finish, pop}}, nil, 20},
	} {
		for n := range c.length + 1 {
			allOf(1+c.sleepers, n, func(picks []int) { checkPlay(t, c.scene, slices.Concat(c.ahead, picks)) })
		}
	}
}

// allOf goes through all lists of n numbers below limit.
func allOf(limit, n int, do func([]int)) {
	picks := make([]int, n)
	for {
		do(picks)
		i := n - 1
		for ; i >= 0 && picks[i] == limit-1; i-- {
			picks[i] = 0
		}
		if i < 0 {
			return
		}
		picks[i]++
	}
}

// drawnScene has todos of all kinds; of finishes there are none, or a few.
func drawnScene(rng *rand.Rand, sleepers int, finishes bool) scene {
	s := scene{most: 1 + rng.Intn(5), sleepers: sleepers}
	s.first = 1 + rng.Intn(s.most)
	pushes := 1 + rng.Intn(9)
	for n := range rng.Intn(25) {
		todo := pop
		if rng.Intn(10) < pushes {
			todo = push(int64(n + 1))
		}
		if finishes && rng.Intn(12) == 0 {
			todo = finish
		}
		s.todos = append(s.todos, todo)
	}
	return s
}

func drawn() int {
	if testing.Short() {
		return 400
	}
	return 6000
}

// 9.8 to 9.10 and 9.13 for drawn plays.
func TestDrawnPlays(t *testing.T) {
	rng := rand.New(rand.NewSource(9))
	for range drawn() {
		s := drawnScene(rng, rng.Intn(api.MaxSleepers+1), rng.Intn(3) == 0)
		checkPlay(t, s, spy.Picks(rng.Intn, rng.Intn(60+40*len(s.todos)), 1+s.sleepers))
	}
}

// 9.11: what is left when worker 0 is through is taken by the sleepers, and then all rest.
func TestAllIsTaken(t *testing.T) {
	rng := rand.New(rand.NewSource(11))
	for range drawn() / 6 {
		s := drawnScene(rng, 1+rng.Intn(api.MaxSleepers), false)
		p := 1 + s.sleepers
		picks := spy.Picks(rng.Intn, rng.Intn(60+40*len(s.todos)), p)
		picks = append(picks, rep((2*s.most+9+p+1)*len(s.todos), 0)...)
		held := len(checkPlay(t, s, picks).Left)
		round := make([]int, s.sleepers)
		for i := range round {
			round[i] = 1 + i
		}
		picks = append(picks, slices.Repeat(round, (held+2)*(2*p+12))...)
		if r := checkPlay(t, s, picks); len(r.Left) != 0 {
			t.Fatalf("9.11: %v are left: %+v, %v", r.Left, s, picks)
		}
		picks = append(picks, slices.Repeat(round, 2*p+12)...)
		r := checkPlay(t, s, picks)
		if slices.ContainsFunc(r.States, func(x int) bool { return x != api.SParked }) || slices.Contains(r.Flags[1:], 0) || r.Sleepers != int64(s.sleepers) {
			t.Fatalf("9.11: not all rest: %+v, %v: %+v", s, picks, r)
		}
	}
}

// 9.12: behind a finish each sleeper halts, whatever worker 0 does and whoever comes first.
func TestAllHalt(t *testing.T) {
	rng := rand.New(rand.NewSource(12))
	for range drawn() / 6 {
		s := drawnScene(rng, 1+rng.Intn(api.MaxSleepers), false)
		p := 1 + s.sleepers
		picks := slices.Concat(spy.Picks(rng.Intn, rng.Intn(60+20*len(s.todos)), p), rep((2*s.most+9+p+1)*len(s.todos), 0), spy.Picks(rng.Intn, rng.Intn(5*p), p))
		s.todos = append(s.todos, finish)
		if rng.Intn(2) == 0 { // worker 0 goes on behind it
			s.todos = append(s.todos, push(70), pop, push(71), push(72))
		}
		picks = append(picks, rep(2*p-1, 0)...)
		if r := checkPlay(t, s, picks); r.Done != 1 {
			t.Fatalf("9.6: it is not done: %+v", r)
		}
		var more []int
		for who := range p {
			more = append(more, rep(2*p+10, who)...)
		}
		if rng.Intn(2) == 0 {
			rng.Shuffle(len(more), func(i, k int) { more[i], more[k] = more[k], more[i] })
		}
		if r := checkPlay(t, s, append(picks, more...)); slices.ContainsFunc(r.States, func(x int) bool { return x != api.SHalted }) {
			t.Fatalf("9.12: not all have halted: %+v, %v: %+v", s, picks, r)
		}
	}
}

// 9.12: the longest way to a halt takes all of its steps.
func TestLongestWayToHalt(t *testing.T) {
	for sleepers := 1; sleepers <= api.MaxSleepers; sleepers++ {
		p := 1 + sleepers
		s := scene{1, 1, sleepers, []api.Todo{push(1), finish}}
		picks := slices.Concat(rep(7, 0), rep(3, 1), rep(2*p-1, 0))
		if r := checkPlay(t, s, slices.Concat(picks, rep(2*p+9, 1))); r.States[0] == api.SHalted {
			t.Errorf("9.12: %d sleepers: halted behind %d steps", sleepers, 2*p+9)
		}
		if r := checkPlay(t, s, slices.Concat(picks, rep(2*p+10, 1))); r.States[0] != api.SHalted {
			t.Errorf("9.12: %d sleepers: not halted behind %d steps", sleepers, 2*p+10)
		}
	}
}

// The greatest play: as many todos, picks and sleepers as there may be.
func TestGreatestPlay(t *testing.T) {
	todos := make([]api.Todo, api.MaxTodos)
	for i := range todos {
		todos[i] = push(int64(i))
	}
	picks := make([]int, api.MaxPicks)
	for i := range picks {
		if i >= 1<<16 {
			picks[i] = i
		}
	}
	r, err := park.Play(1, api.MaxDeque, api.MaxSleepers, todos, picks)
	if err != api.OK || len(r.Left) != 0 || len(r.Taken) != api.MaxTodos || r.Sleepers != api.MaxSleepers {
		t.Errorf("9.11: %d left, %d taken, %d sleep, %d", len(r.Left), len(r.Taken), r.Sleepers, err)
	}
	r, err = park.Play(1, api.MaxDeque, api.MaxSleepers, todos, picks[:1<<16])
	if err != api.OK || len(r.Left) != api.MaxTodos || r.Left[0] != 0 || r.Left[4095] != 4095 || !r.Between {
		t.Errorf("9.8: %d left, %d", len(r.Left), err)
	}
}

// R3: what is handed in stays as it is, what is handed out is new.
func TestPlayMemory(t *testing.T) {
	todos := []api.Todo{push(7), push(8), pop, push(9), pop, finish, push(3)}
	picks := spy.Picks(rand.New(rand.NewSource(2)).Intn, 200, 3)
	todos2, picks2 := slices.Clone(todos), slices.Clone(picks)
	r, _ := park.Play(1, 2, 2, todos[:4], picks[:120])
	if !slices.Equal(todos, todos2) || !slices.Equal(picks, picks2) {
		t.Errorf("R3: what was handed in has changed")
	}
	kept := copied(r)
	clear(todos)
	clear(picks)
	if !sameRun(r, kept) {
		t.Errorf("R3: what was handed in is kept")
	}
	spoil(r.Left, -77)
	spoil(r.Flags, -77)
	spoil(r.States, -77)
	spoil(r.Log, api.Access{Who: 77})
	spoil(r.Taken, api.Take{Who: 77})
	if again, err := park.Play(1, 2, 2, todos2[:4], picks2[:120]); err != api.OK || !sameRun(again, kept) {
		t.Errorf("R3: the same play once more: %+v, %d, want %+v", again, err, kept)
	}
}

func copied(r api.ParkRun) api.ParkRun {
	r.Taken, r.Left, r.States, r.Flags, r.Log = slices.Clone(r.Taken), slices.Clone(r.Left), slices.Clone(r.States), slices.Clone(r.Flags), slices.Clone(r.Log)
	return r
}

// spoil writes into a list and into the room behind it.
func spoil[E any](list []E, v E) {
	list = list[:cap(list)]
	for i := range list {
		list[i] = v
	}
}

// R3: no two lists of one answer share memory.
func TestPlayListsAreApart(t *testing.T) {
	todos := []api.Todo{push(7), push(8), push(9)}
	r, _ := park.Play(1, 4, 3, todos, slices.Concat(rep(40, 0), rep(15, 1)))
	kept := copied(r)
	spoil(r.Flags, -77)
	if !slices.Equal(r.Left, kept.Left) || len(r.Left) == 0 {
		t.Errorf("R3: the flags and what is left share memory")
	}
	spoil(r.Left, -78)
	if slices.Contains(r.Flags, -78) {
		t.Errorf("R3: what is left and the flags share memory")
	}
}
