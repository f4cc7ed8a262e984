package samples_test

import (
	"math/rand"
	"reflect"
	"testing"

	"plunder/api"
	"plunder/prog"
	"plunder/samples"
)

// All programs are valid, those of the document and those that are drawn; all kinds of instructions are drawn, and no IPed where none is asked for.
func TestValid(t *testing.T) {
	r := rand.New(rand.NewSource(1))
	programs := []api.Program{samples.Sum(), samples.Pair(), samples.Fib(), samples.Five(), samples.One(), samples.Count()}
	for range 2000 {
		programs = append(programs, samples.Draw(r.Intn, true))
	}
	kinds := map[int]int{}
	for _, p := range programs {
		valid(t, p)
		for _, f := range p.Funcs {
			for _, i := range f.Code {
				kinds[i.Kind]++
			}
		}
	}
	for kind := api.IConst; kind <= api.IReturn; kind++ {
		if kinds[kind] < 500 {
			t.Errorf("too few instructions of kind %d: %d", kind, kinds[kind])
		}
	}
	for range 500 {
		p := samples.Draw(r.Intn, false)
		valid(t, p)
		for _, f := range p.Funcs {
			for _, i := range f.Code {
				if i.Kind == api.IPed {
					t.Fatalf("an IPed in %v", p)
				}
			}
		}
		if args := samples.Args(r.Intn, p); len(args) != p.Funcs[0].Params {
			t.Fatalf("%d arguments for %v", len(args), p)
		}
	}
}

func valid(t *testing.T, p api.Program) {
	t.Helper()
	if fault := prog.Check(p); fault.Err != api.OK {
		t.Fatalf("%v is not valid: %v", p, fault)
	}
}

// A copy is the same in other memory, and each change of it shows, in the room behind the ends of its lists too.
func TestCopied(t *testing.T) {
	p := samples.Pair()
	if q := samples.Copied(p); !reflect.DeepEqual(q, p) || !samples.Untouched(q, p) {
		t.Errorf("a copy of %v is %v", p, q)
	}
	for k, change := range []func(q *api.Program){
		func(q *api.Program) { q.Funcs[1].Params = 7 },
		func(q *api.Program) { q.Funcs[1].Regs = 7 },
		func(q *api.Program) { q.Funcs[0].Slots = 7 },
		func(q *api.Program) { q.Funcs[0].Code[6].A = 1 },
		func(q *api.Program) { _ = append(q.Funcs, api.Func{}) },
		func(q *api.Program) { _ = append(q.Funcs[1].Code, api.Instr{}) },
		func(q *api.Program) { q.Funcs = q.Funcs[:1] },
	} {
		q := samples.Copied(p)
		change(&q)
		if samples.Untouched(q, p) || !reflect.DeepEqual(p, samples.Pair()) {
			t.Errorf("change %d does not show, or shows in %v", k, p)
		}
	}
}

// A job that is drawn may be run: nothing of it is refused.
func TestJob(t *testing.T) {
	r := rand.New(rand.NewSource(2))
	narrow := 0
	for range 1000 {
		j := samples.Job(r.Intn, 50)
		valid(t, j.P)
		lim := j.Lim
		if len(j.Args) != j.P.Funcs[0].Params || j.Workers < 1 || j.Workers > api.MaxWorkers || len(j.S.Picks) >= 50 {
			t.Fatalf("the job %+v", j)
		}
		if lim.Frames < 1 || lim.Frames > api.MaxFrames || lim.First < 1 || lim.Most < lim.First || lim.Most > api.MaxDeque {
			t.Fatalf("the limits %+v", lim)
		}
		if lim.Frames < 8 {
			narrow++
		}
	}
	if narrow < 100 {
		t.Errorf("only %d of the limits are narrow", narrow)
	}
}
