package live_test

import (
	"math"
	"math/rand"
	"runtime"
	"slices"
	"strings"
	"sync"
	"testing"
	"time"

	"plunder/api"
	"plunder/asm"
	"plunder/live"
	"plunder/samples"
	"plunder/serial"
	"plunder/worker"
)

// ask is a run that is asked for.
type ask struct {
	p       api.Program
	args    []int64
	workers int
	lim     api.Limits
	fuel    int
}

func (a ask) run() (api.Live, api.Errno) { return live.Run(a.p, a.args, a.workers, a.lim, a.fuel) }

// want is 17.1 and P12 by the document's words.
func (a ask) want() (api.Live, api.Errno) {
	if _, _, err := worker.Play(a.p, a.args, a.workers, a.lim, api.Script{}); err != api.OK {
		return api.Live{}, err
	}
	v, err := serial.Eval(a.p, a.args, a.fuel)
	if err == api.OK && (v.Tasks > a.lim.Frames || v.Tasks > a.lim.Most) {
		err = api.ErrLimit
	}
	if err != api.OK {
		return api.Live{}, err
	}
	return api.Live{Value: v.V, Tasks: v.Tasks}, api.OK
}

func check(t *testing.T, law string, a ask, want api.Live, wantErr api.Errno) {
	t.Helper()
	if got, err := a.run(); got != want || err != wantErr {
		t.Fatalf("%s: %+v: %+v, %d, want %+v, %d", law, a, got, err, want, wantErr)
	}
}

func limits(frames, first, most int) api.Limits {
	return api.Limits{Frames: frames, First: first, Most: most}
}

var widest = limits(api.MaxFrames, 1, api.MaxDeque)

// sum is the program of the chapter's example 1.
func sum() api.Program {
	return asm.Program(asm.Func(2, 2, 0, asm.Arith(0, 0, api.Add, 1), asm.Return(0)))
}

// endless never ends, by one task.
func endless() api.Program { return asm.Program(asm.Func(0, 1, 0, asm.Jump(0))) }

// deeper never ends, by children of children.
func deeper() api.Program {
	return asm.Program(asm.Func(0, 1, 1, asm.Spawn(0, 0, 0), asm.Sync(), asm.Return(0)))
}

// leaves has as many children at the least as its argument says, all of them the root's, two at a time.
func leaves() api.Program {
	return asm.Program(
		asm.Func(1, 5, 2,
			asm.Const(1, 2), asm.Spawn(0, 1, 0), asm.Spawn(1, 1, 0), asm.Sync(),
			asm.Load(2, 0), asm.Load(3, 1), asm.Arith(4, 4, api.Add, 2), asm.Arith(4, 4, api.Add, 3),
			asm.Arith(0, 0, api.Sub, 1), asm.Arith(2, 1, api.Le, 0), asm.Branch(2, 1), asm.Return(4)),
		asm.Func(1, 2, 0, asm.Ped(1), asm.Arith(0, 0, api.Xor, 1), asm.Return(0)))
}

// onProcessors lets a test run on so many.
func onProcessors(t *testing.T, n int) {
	was := runtime.GOMAXPROCS(n)
	t.Cleanup(func() { runtime.GOMAXPROCS(was) })
}

// The chapter's examples 1 to 3.
func TestExamples(t *testing.T) {
	ten := []int64{10}
	for workers := 1; workers <= api.MaxWorkers; workers++ {
		a := ask{sum(), []int64{3, 4}, workers, limits(1, 1, 1), 2}
		check(t, "example 1", a, api.Live{Value: 7, Tasks: 1}, api.OK)
		a.fuel = 1
		check(t, "example 1", a, api.Live{}, api.ErrFuel)
		a.fuel = -1
		check(t, "example 1", a, api.Live{}, api.ErrArg)
		a.lim.First = 2
		check(t, "example 1", a, api.Live{}, api.ErrLimits)
		check(t, "example 2", ask{samples.Fib(), ten, workers, limits(177, 1, 177), 9000}, api.Live{Value: 55, Tasks: 177}, api.OK)
		check(t, "example 2", ask{samples.Fib(), ten, workers, limits(176, 1, 177), 9000}, api.Live{}, api.ErrLimit)
		check(t, "example 2", ask{samples.Fib(), ten, workers, limits(177, 1, 176), 9000}, api.Live{}, api.ErrLimit)
	}
	check(t, "example 3", ask{endless(), nil, 65, widest, api.MaxFuel}, api.Live{}, api.ErrWorkers)
	check(t, "example 3", ask{endless(), nil, 2, widest, api.MaxFuel}, api.Live{}, api.ErrFuel)
	check(t, "example 3", ask{deeper(), nil, 65, widest, api.MaxFuel}, api.Live{}, api.ErrWorkers)
	check(t, "example 3", ask{deeper(), nil, 2, widest, api.MaxFuel}, api.Live{}, api.ErrDeep)
	check(t, "example 3", ask{deeper(), nil, 2, widest, 4000}, api.Live{}, api.ErrFuel)
}

// fault is something that is wrong with a run.
type fault struct {
	err   api.Errno
	spoil func(a *ask)
}

// faults: in the order in which they are told.
func faults() []fault {
	list := []fault{
		{api.ErrProgram, func(a *ask) { a.p = api.Program{} }},
		{api.ErrProgram, func(a *ask) { a.p.Funcs[0].Code[13].A = 4 }},
		{api.ErrArity, func(a *ask) { a.args = nil }},
		{api.ErrArity, func(a *ask) { a.args = []int64{5, 5} }},
	}
	for _, workers := range []int{0, -1, api.MaxWorkers + 1, math.MinInt, math.MaxInt} {
		list = append(list, fault{api.ErrWorkers, func(a *ask) { a.workers = workers }})
	}
	for _, lim := range []api.Limits{
		{}, limits(0, 1, 20), limits(-1, 1, 20), limits(api.MaxFrames+1, 1, 20), limits(math.MinInt, 1, 20), limits(math.MaxInt, 1, 20),
		limits(20, 0, 20), limits(20, -1, 20), limits(20, 21, 20), limits(20, math.MinInt, 20), limits(20, math.MaxInt, 20),
		limits(20, 1, 0), limits(20, 1, api.MaxDeque+1), limits(20, 1, math.MaxInt), limits(20, api.MaxDeque+1, api.MaxDeque+1),
	} {
		list = append(list, fault{api.ErrLimits, func(a *ask) { a.lim = lim }})
	}
	for _, fuel := range []int{-1, api.MaxFuel + 1, math.MinInt, math.MaxInt} {
		list = append(list, fault{api.ErrArg, func(a *ask) { a.fuel = fuel }})
	}
	return append(list,
		fault{api.ErrFuel, func(a *ask) { a.fuel = 0 }},
		fault{api.ErrFuel, func(a *ask) { a.fuel = 100 }},
		fault{api.ErrDeep, func(a *ask) { a.p.Funcs[0].Code[4] = asm.Move(3, 0) }},
		fault{api.ErrLimit, func(a *ask) { a.lim.Frames = 14 }},
		fault{api.ErrLimit, func(a *ask) { a.lim.Most = 14 }},
		fault{api.ErrLimit, func(a *ask) { a.lim = limits(1, 1, 1) }})
}

// 17.1: of two things that are wrong the one that the chapter names first is told.
func TestRefusals(t *testing.T) {
	good := func() ask { return ask{samples.Fib(), []int64{5}, 3, limits(15, 1, 15), api.MaxFuel} }
	check(t, "17.1", good(), api.Live{Value: 5, Tasks: 15}, api.OK)
	list := faults()
	for i, first := range list {
		for _, second := range list[i:] {
			a := good()
			second.spoil(&a)
			first.spoil(&a)
			check(t, "17.1", a, api.Live{}, first.err)
		}
	}
}

// 17.1, 17.2: runs that are just let in, and those that just are not.
func TestEdges(t *testing.T) {
	for _, c := range []struct {
		p api.Program
		n int64
	}{{samples.Fib(), 7}, {samples.Sum(), 30}, {samples.One(), 8}, {samples.Count(), 9}, {leaves(), 20}, {samples.Sum(), api.MaxDepth - 1}} {
		v, err := serial.Eval(c.p, []int64{c.n}, api.MaxFuel)
		if err != api.OK {
			t.Fatal(err)
		}
		told := api.Live{Value: v.V, Tasks: v.Tasks}
		for _, workers := range []int{1, 2, 5, api.MaxWorkers} {
			a := ask{c.p, []int64{c.n}, workers, limits(v.Tasks, 1, v.Tasks), v.Work}
			check(t, "17.2, the least fuel and limits", a, told, api.OK)
			a.lim.First = v.Tasks
			check(t, "17.2, deques that do not grow", a, told, api.OK)
			a.lim, a.fuel = limits(api.MaxFrames, api.MaxDeque, api.MaxDeque), api.MaxFuel
			check(t, "17.2, the most fuel and limits", a, told, api.OK)
			a.fuel = v.Work - 1
			check(t, "17.1, too little fuel", a, api.Live{}, api.ErrFuel)
		}
	}
	check(t, "17.1, too deep", ask{samples.Sum(), []int64{api.MaxDepth}, 2, widest, api.MaxFuel}, api.Live{}, api.ErrDeep)
	check(t, "17.1, too many tasks", ask{leaves(), []int64{api.MaxFrames}, 2, widest, api.MaxFuel}, api.Live{}, api.ErrLimit)
}

// drawn draws a run: most of them are let in.
func drawn(r *rand.Rand) ask {
	a := ask{p: samples.Draw(r.Intn, r.Intn(2) == 0), workers: 1 + r.Intn(8), fuel: 5000}
	a.args = samples.Args(r.Intn, a.p)
	tasks := 1 + r.Intn(200)
	if v, err := serial.Eval(a.p, a.args, a.fuel); err == api.OK {
		tasks = min(v.Tasks, api.MaxFrames)
	}
	a.lim = limits(tasks, 1+r.Intn(tasks), tasks)
	switch r.Intn(20) {
	case 0:
		a.workers = 1 + r.Intn(api.MaxWorkers)
	case 1:
		a.lim.Frames = r.Intn(tasks + 2)
	case 2:
		a.lim.Most = r.Intn(tasks + 2)
	case 3:
		a.fuel = r.Intn(200) - 5
	case 4:
		a.args = append(a.args, 1)
	}
	return a
}

// 17.1 to 17.3, P12: drawn programs, on one processor and on several.
func TestDrawn(t *testing.T) {
	r := rand.New(rand.NewSource(17))
	told := map[api.Errno]int{}
	most := 0
	for _, processors := range []int{1, 2, 8} {
		onProcessors(t, processors)
		for range 1200 {
			a := drawn(r)
			v, err := a.want()
			check(t, "P12", a, v, err)
			told[err]++
			most = max(most, v.Tasks)
		}
	}
	for _, err := range []api.Errno{api.OK, api.ErrLimit, api.ErrFuel, api.ErrArity, api.ErrLimits} {
		if told[err] < 20 {
			t.Errorf("only %d runs were answered with %d", told[err], err)
		}
	}
	if told[api.OK] < 2000 || most < 100 {
		t.Errorf("%d runs were let in, the greatest of them with %d tasks", told[api.OK], most)
	}
}

// 17.3: many workers of which but one has something to do, and many that have, on few processors and on more.
func TestIdleWorkers(t *testing.T) {
	for _, processors := range []int{1, 2, runtime.NumCPU()} {
		onProcessors(t, processors)
		for _, c := range []struct {
			p api.Program
			n int64
		}{{samples.Count(), 500000}, {samples.Sum(), 1000}, {samples.Fib(), 15}, {leaves(), 2000}} {
			for _, workers := range []int{2, 3, 4, 5, 16, api.MaxWorkers} {
				a := ask{c.p, []int64{c.n}, workers, widest, api.MaxFuel}
				v, _ := a.want()
				check(t, "17.3", a, v, api.OK)
			}
		}
	}
}

// started tells how many goroutines there are that the package has started.
func started() int {
	all := make([]byte, 1<<20)
	return strings.Count(string(all[:runtime.Stack(all, true)]), "created by plunder/live.")
}

// most tells how many of them there are at a time at the most while something is done, and that none is left behind it. Where fewer were seen than there should be it is done again: the looks may have come too late.
func most(t *testing.T, least int, do func()) int {
	t.Helper()
	n := 0
	for try := 0; try < 50 && (try == 0 || n < least); try++ {
		n = max(n, seen(t, do))
	}
	return n
}

// seen looks again and again while something is done.
func seen(t *testing.T, do func()) int {
	t.Helper()
	over := make(chan struct{})
	go func() {
		defer close(over)
		do()
	}()
	n := 0
	for {
		select {
		case <-over:
			noneLeft(t)
			return n
		default:
			n = max(n, started())
			time.Sleep(time.Millisecond)
		}
	}
}

// noneLeft waits a little: a goroutine that has told that it ends is still there for a moment.
func noneLeft(t *testing.T) {
	t.Helper()
	for n := 0; started() > 0; n++ {
		if n > 1000 {
			t.Fatalf("17.5: %d goroutines are left", started())
		}
		time.Sleep(time.Millisecond)
	}
}

// 17.2, 17.5: each worker has a goroutine of its own, and none of them is there behind the answer.
func TestGoroutines(t *testing.T) {
	for _, workers := range []int{1, 2, 7, api.MaxWorkers} {
		a := ask{samples.Count(), []int64{2000000}, workers, limits(1, 1, 1), api.MaxFuel}
		if n := most(t, workers, func() { a.run() }); n != workers {
			t.Errorf("17.2: %d workers, %d goroutines", workers, n)
		}
		for _, refused := range []ask{{endless(), nil, workers, widest, 99}, {samples.Fib(), []int64{5}, workers, limits(3, 1, 3), 999}} {
			refused.run()
			noneLeft(t)
		}
	}
}

// 17.5: what is handed in is as it was, in the room behind the ends too.
func TestUntouched(t *testing.T) {
	p := samples.Fib()
	own := samples.Copied(p)
	room := []int64{9, 77}
	for range 20 {
		check(t, "17.5", ask{own, room[:1], 4, limits(109, 2, 109), 9000}, api.Live{Value: 34, Tasks: 109}, api.OK)
		if !samples.Untouched(own, p) || !slices.Equal(room, []int64{9, 77}) {
			t.Fatalf("17.5: what was handed in has become %v, %v", own, room)
		}
	}
}

// 17.5: calls that are made at the same time, with one program for all of them.
func TestSideBySide(t *testing.T) {
	p := samples.Fib()
	numbers := []int64{5, 8, 13, 21, 34, 55, 89, 144}
	jobs := make([]api.Job, 5)
	var all sync.WaitGroup
	for i, f := range numbers {
		all.Go(func() {
			for range 10 {
				if got, err := live.Run(p, []int64{int64(5 + i)}, 1+i, limits(500, 1, 500), 1<<16); got.Value != f || err != api.OK {
					t.Errorf("17.5: a run beside others: %+v, %d, want %d", got, err, f)
				}
				if l, err := live.Batch(jobs[:i%5], 1+i); len(l) != i%5 || err != api.OK {
					t.Errorf("17.5: a batch beside others: %v, %d", l, err)
				}
			}
		})
	}
	all.Wait()
}
