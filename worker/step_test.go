package worker_test

import (
	"math"
	"math/rand"
	"slices"
	"testing"

	"plunder/api"
	"plunder/asm"
	"plunder/cells"
	"plunder/deque"
	"plunder/ops"
	"plunder/samples"
	"plunder/script"
	"plunder/spy"
	"plunder/worker"
)

// counted is a drawer that counts.
type counted struct {
	script.Rand
	drawn int
}

func (c *counted) Draw() int {
	c.drawn++
	return c.Rand.Draw()
}

// twins are a world and the model of it, side by side, each on a memory of its own.
type twins struct {
	*testing.T
	job
	w              *worker.World
	m              *model
	wMem, mMem     *spy.Mem
	wCells, mCells *cells.Arena
	draws          *counted
}

// pair lays both into so many cells.
func pair(t *testing.T, j job, draws []int, size int) *twins {
	t.Helper()
	x := &twins{T: t, job: j, wCells: arena(t, size), mCells: arena(t, size), draws: &counted{Rand: script.List(draws)}}
	x.wMem, x.mMem = spy.New(x.wCells), spy.New(x.mCells)
	var err api.Errno
	if x.w, err = worker.New(x.wMem, j.p, j.args, j.workers, j.lim); err != api.OK {
		t.Fatalf("11.1: New(%+v): %d", j, err)
	}
	x.m = begin(x.mMem, j, draws)
	t.Cleanup(x.m.stop)
	x.same()
	return x
}

// refuse lets both memories refuse all accesses from the n-th one from now on.
func (x *twins) refuse(n int) {
	x.wMem.Refuse = len(x.wMem.Asked) + n
	x.mMem.Refuse = len(x.mMem.Asked) + n
}

// meddle writes into both memories what no worker has written.
func (x *twins) meddle(addr int, v int64) {
	x.wCells.Store(addr, v)
	x.mCells.Store(addr, v)
}

// step lets a worker of both make a step, and holds them against each other.
func (x *twins) step(i int) api.Event {
	x.Helper()
	asked, drawn := len(x.wMem.Asked), x.draws.drawn
	e, err := x.w.Step(i, x.draws)
	if want := x.m.step(i); err != api.OK || e != want {
		x.Fatalf("11.4: %+v: worker %d: %+v, %d, want %+v", x.job, i, e, err, want)
	}
	if len(x.wMem.Asked) > asked+1 || x.draws.drawn > drawn+1 {
		x.Fatalf("11.5: %+v: worker %d asks for %v, draws %d times", x.job, i, x.wMem.Asked[asked:], x.draws.drawn-drawn)
	}
	if !slices.Equal(x.wMem.Asked[asked:], x.mMem.Asked[min(asked, len(x.mMem.Asked)):]) || x.draws.drawn != x.m.drawn {
		x.Fatalf("11.5: %+v: worker %d asks for %v, want %v; %d draws, want %d", x.job, i, x.wMem.Asked[asked:], x.mMem.Asked[asked:], x.draws.drawn, x.m.drawn)
	}
	x.same()
	return e
}

// same holds what can be asked against the model.
func (x *twins) same() {
	x.Helper()
	for i, a := range x.m.actors {
		if x.w.Holds(i) != a.holds || x.w.Halted(i) != a.halted {
			x.Fatalf("11.6: %+v: worker %d holds %d, want %d; halted: %v", x.job, i, x.w.Holds(i), a.holds, x.w.Halted(i))
		}
	}
	if v, ok := x.w.Result(); v != x.m.value || ok != x.m.left {
		x.Fatalf("11.6: %+v: the result %d, %v, want %d, %v", x.job, v, ok, x.m.value, x.m.left)
	}
}

// apart: 11.9, as the cells stand.
func (x *twins) apart() {
	x.Helper()
	seen := map[int]bool{}
	once := func(frame int) {
		if seen[frame] {
			x.Fatalf("11.9: %+v: the frame %d is held twice, or held and in a deque", x.job, frame)
		}
		seen[frame] = true
	}
	for i, d := range x.m.deques {
		if f := x.w.Holds(i); f >= 0 {
			once(f)
		}
		top, _ := x.wCells.Load(d.Base)
		bottom, _ := x.wCells.Load(d.Base + 1)
		buf, _ := x.wCells.Load(d.Base + 2)
		most, _ := x.wCells.Load(int(buf))
		for k := top; k < bottom; k++ {
			f, _ := x.wCells.Load(int(buf + 1 + k%most))
			once(int(f))
		}
	}
}

// 11.4 to 11.6 and 11.9: drawn worlds step by step. Behind an EvFull the others go on.
func TestStepsDrawn(t *testing.T) {
	r := rand.New(rand.NewSource(12))
	for range 1500 {
		j, s := drawn(r, 800)
		j.lim.Frames = min(j.lim.Frames, 200)
		j.lim.Most = min(j.lim.Most, 200)
		x := pair(t, j, s.Draws, worker.Need(j.workers, j.lim))
		for _, pick := range s.Picks {
			x.step(ops.Mod(pick, j.workers))
			x.apart()
		}
	}
}

// 11.4 to 11.6: memories that begin to refuse in the midst of it.
func TestStepsRefused(t *testing.T) {
	r := rand.New(rand.NewSource(13))
	for range 4000 {
		j, s := drawn(r, 300)
		j.lim.Frames = min(j.lim.Frames, 100)
		j.lim.Most = min(j.lim.Most, 100)
		x := pair(t, j, s.Draws, worker.Need(j.workers, j.lim))
		x.refuse(r.Intn(1 + len(s.Picks)))
		for _, pick := range s.Picks {
			x.step(ops.Mod(pick, j.workers))
		}
	}
}

// 11.4: each access of a run of two workers is refused in turn. The worker is full with no event, still holds what it held, and asks for nothing more.
func TestEachRefused(t *testing.T) {
	j := job{samples.One(), []int64{3}, 2, limits(2, 1, 1)}
	for n := range 70 {
		x := pair(t, j, nil, 200)
		x.refuse(n)
		for k := range 120 {
			x.step([]int{0, 1, 0, 0}[k%4])
		}
		for i := range 2 {
			held, asked := x.w.Holds(i), len(x.wMem.Asked)
			if e := x.step(i); e != (api.Event{}) || x.w.Holds(i) != held || len(x.wMem.Asked) != asked {
				t.Errorf("11.4: %d accesses, then none: worker %d is not full: %v", n, i, e)
			}
		}
	}
}

// 11.4: a deque that finds no cells to grow into.
func TestNoRoomToGrow(t *testing.T) {
	j := job{samples.Pair(), nil, 1, limits(3, 1, 2)}
	x := pair(t, j, nil, worker.Need(1, j.lim)-1)
	var last api.Event
	for range 60 {
		if e := x.step(0); e != (api.Event{}) {
			last = e
		}
	}
	if last.Kind != api.EvSpawn || last.Frame != 1 || x.w.Holds(0) != 0 || x.w.Halted(0) {
		t.Errorf("11.4: %v, the worker holds %d", last, x.w.Holds(0))
	}
}

// 11.4: what is refused does nothing, and does not draw.
func TestStepRefusals(t *testing.T) {
	m := spy.New(arena(t, 100))
	w, _ := worker.New(m, samples.Five(), nil, 2, small)
	asked := len(m.Asked)
	draws := &counted{Rand: script.List(nil)}
	var nobody *worker.World
	wrong := []int{2, -1, 3, 64, math.MinInt, math.MaxInt}
	for _, i := range append(wrong, 0, 1) {
		if e, err := w.Step(i, nil); e != (api.Event{}) || err != api.ErrNil {
			t.Errorf("11.4: Step(%d, nil): %v, %d", i, e, err)
		}
		if e, err := nobody.Step(i, draws); e != (api.Event{}) || err != api.ErrNil {
			t.Errorf("11.4: Step(%d) of no world: %v, %d", i, e, err)
		}
		if nobody.Halted(i) || nobody.Holds(i) != -1 {
			t.Errorf("11.6: worker %d of no world", i)
		}
	}
	for _, i := range wrong {
		if e, err := w.Step(i, draws); e != (api.Event{}) || err != api.ErrArg || w.Halted(i) || w.Holds(i) != -1 {
			t.Errorf("11.4, 11.6: worker %d: %v, %d, it holds %d", i, e, err, w.Holds(i))
		}
	}
	if v, ok := nobody.Result(); v != 0 || ok {
		t.Errorf("11.6: the result of no world: %d, %v", v, ok)
	}
	if len(m.Asked) != asked || draws.drawn != 0 {
		t.Errorf("11.4: what was refused made the accesses %v, and %d draws", m.Asked[asked:], draws.drawn)
	}
	var zero worker.World
	if e, err := zero.Step(0, draws); e != (api.Event{}) || err != api.ErrArg || zero.Halted(0) || zero.Holds(0) != -1 {
		t.Errorf("R1: a world that New did not make: %v, %d", e, err)
	}
	if v, ok := zero.Result(); v != 0 || ok {
		t.Errorf("R1: its result: %d, %v", v, ok)
	}
}

// 11.4: V of EvStart is the new mark, whatever it is.
func TestMarks(t *testing.T) {
	for _, mark := range []int64{0, 1, 41, -1, math.MaxInt64} {
		x := pair(t, job{samples.Five(), nil, 1, small}, nil, 100)
		x.meddle(x.m.table.Base+2, mark)
		if e := x.step(0); e != (api.Event{Kind: api.EvStart, X: -1, V: mark + 1}) {
			t.Errorf("11.4: MARK was %d: %v", mark, e)
		}
	}
}

// 11.4: one that has halted does nothing more, whatever it is asked.
func TestHaltedIdles(t *testing.T) {
	x := pair(t, job{samples.Five(), nil, 3, small}, nil, 200)
	for k := range 60 {
		x.step([]int{1, 1, 0, 2, 2}[k%5])
	}
	asked := len(x.wMem.Asked)
	for i := range 3 {
		if e := x.step(i); e != (api.Event{}) || !x.w.Halted(i) || x.w.Holds(i) != -1 {
			t.Errorf("11.4: worker %d has not halted: %v", i, e)
		}
	}
	if v, ok := x.w.Result(); len(x.wMem.Asked) != asked || v != 5 || !ok {
		t.Errorf("11.4: accesses of workers that have halted, or the result %d, %v", v, ok)
	}
}

// 11.4: the victim, for each worker and draw.
func TestVictims(t *testing.T) {
	for _, workers := range []int{2, 3, 5, 64} {
		for i := 1; i < workers; i++ {
			for _, d := range []int{0, 1, 2, 3, 61, 62, 63, 64, -1, -2, -63, math.MaxInt, math.MaxInt - 1, math.MinInt, math.MinInt + 1} {
				m := spy.New(arena(t, 1000))
				w, _ := worker.New(m, samples.Five(), nil, workers, limits(1, 1, 1))
				w.Step(i, script.List([]int{d}))
				victim := (i + 1 + ops.Mod(d, workers-1)) % workers
				want := spy.Load(1 + 11 + 2 + workers + 5*victim)
				if last := m.Asked[len(m.Asked)-1]; last != want || victim == i {
					t.Fatalf("11.4: worker %d of %d draws %d: it asks for %v, want %v", i, workers, d, last, want)
				}
			}
		}
	}
}

// 11.4: one worker alone whose child has gone: it rests instead of hunting, and draws nothing. (Only another hand can have taken the child.)
func TestAloneRests(t *testing.T) {
	x := pair(t, job{samples.One(), []int64{3}, 1, small}, nil, 200)
	for range 11 {
		x.step(0)
	}
	for _, m := range []*cells.Arena{x.wCells, x.mCells} {
		for o := deque.Steal(x.m.deques[0]); ; o = deque.Step(m, o) {
			if code, _ := deque.Answer(o); code == api.Got {
				break
			}
		}
	}
	flag, done := x.m.lot.Base+2, x.m.lot.Base+1
	for n := range 5 + 3 {
		if e := x.step(0); (e.Kind == api.EvPark) != (n == 7) {
			t.Errorf("11.4: step %d: %v", n, e)
		}
	}
	x.step(0)
	x.meddle(flag, 0)
	x.step(0)
	for range 3 {
		x.step(0)
	}
	x.meddle(flag, 0)
	x.step(0)
	x.meddle(done, 1)
	for n := range 5 {
		if e := x.step(0); (e.Kind == api.EvHalt) != (n == 4) {
			t.Errorf("11.4: step %d behind DONE: %v", n, e)
		}
	}
	if x.draws.drawn != 0 || !x.w.Halted(0) {
		t.Errorf("11.4: %d draws, halted %v", x.draws.drawn, x.w.Halted(0))
	}
}

// 11.4: failed attempts are counted in a row: three ahead of the first rest, and three ahead of each other one.
func TestAttempts(t *testing.T) {
	x := pair(t, job{samples.Count(), []int64{1000}, 2, small}, []int{7, 7, 7, 7}, 200)
	flag := x.m.lot.Base + 3
	for round := range 4 {
		before := x.draws.drawn
		for range 9 {
			x.step(1)
		}
		if x.draws.drawn != before+api.HuntTries {
			t.Errorf("11.4: round %d: %d attempts ahead of a rest", round, x.draws.drawn-before)
		}
		for n := range 5 {
			if e := x.step(1); (e.Kind == api.EvPark) != (n == 4) {
				t.Errorf("11.4: round %d: step %d of the rest: %v", round, n, e)
			}
		}
		for range round {
			x.step(1)
		}
		x.meddle(flag, 0)
		x.step(1)
	}
}

// 11.4: a thief that has lost, and finds at its peek that all is done.
func TestLostAndDone(t *testing.T) {
	x := pair(t, job{samples.One(), []int64{3}, 3, small}, []int{1, 0}, 200)
	for range 10 {
		x.step(0)
	}
	for range 5 { // both have loaded the element
		x.step(1)
		x.step(2)
	}
	if e := x.step(1); e != (api.Event{Who: 1, Kind: api.EvSteal, Frame: 1}) {
		t.Errorf("11.4: the thief that wins: %v", e)
	}
	if e := x.step(2); e != (api.Event{}) {
		t.Errorf("11.4: the thief that loses: %v", e)
	}
	x.meddle(x.m.lot.Base+1, 1) // DONE
	if e := x.step(2); e != (api.Event{Who: 2, Kind: api.EvHalt}) {
		t.Errorf("11.4: its peek: %v", e)
	}
}

// liar is a memory that answers anything.
type liar struct {
	*rand.Rand
	wide, asked int
}

func (l *liar) number() int64 {
	l.asked++
	if l.Intn(l.wide) == 0 {
		return int64(l.Uint64() >> l.Intn(64))
	}
	return int64(l.Intn(6)) - 1
}

func (l *liar) err() api.Errno {
	if l.Intn(200) == 0 {
		return api.ErrAddr
	}
	return api.OK
}

func (l *liar) Load(int) (int64, api.Errno)             { return l.number(), l.err() }
func (l *liar) Store(int, int64) api.Errno              { l.number(); return l.err() }
func (l *liar) CAS(int, int64, int64) (bool, api.Errno) { return l.number() > 0, l.err() }
func (l *liar) Add(int, int64) (int64, api.Errno)       { return l.number(), l.err() }
func (l *liar) Reserve(int) (int, api.Errno)            { return int(l.number()), l.err() }

// R1: no step panics, or makes a second access, whatever the memory answers.
func TestLyingMemory(t *testing.T) {
	r := rand.New(rand.NewSource(14))
	short := asm.Program(asm.Func(0, 1, 1, asm.Spawn(0, 1, 0), asm.Sync(), asm.Jump(0)), asm.Func(0, 1, 1, asm.Jump(3), asm.Sync(), asm.Return(0), asm.Spawn(0, 0, 0), asm.Jump(1)))
	for n := range 20000 {
		j, s := drawn(r, 100)
		if n%4 == 0 {
			j.p, j.args = short, nil
		}
		j.lim = limits(1+r.Intn(5), 1, 1+r.Intn(4))
		l := &liar{Rand: r, wide: 2 + r.Intn(30)}
		w, err := worker.New(l, j.p, j.args, j.workers, j.lim)
		if err != api.OK {
			continue
		}
		for _, pick := range s.Picks {
			asked := l.asked
			if _, err := w.Step(ops.Mod(pick, j.workers), script.List(s.Draws)); err != api.OK || l.asked > asked+1 {
				t.Fatalf("R1: %+v: %d, %d accesses", j, err, l.asked-asked)
			}
		}
	}
}
