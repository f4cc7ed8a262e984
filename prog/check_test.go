package prog_test

import (
	"math"
	"math/rand"
	"reflect"
	"testing"

	"plunder/api"
	"plunder/prog"
)

func wants(t *testing.T, what string, p api.Program, want api.Fault) {
	t.Helper()
	if got := prog.Check(p); got != want {
		t.Errorf("%s: Check = %v, want %v", what, got, want)
	}
}

// long is a function without a fault, of n instructions.
func long(n int) api.Func {
	f := api.Func{Regs: 1, Code: make([]api.Instr, n)}
	for at := range f.Code {
		f.Code[at] = api.Instr{Kind: api.ISync, A: -1, B: 1 << 40, C: -1, K: -1}
	}
	if n > 0 {
		f.Code[n-1] = api.Instr{Kind: api.IJump, A: n - 1}
	}
	return f
}

// 5.1: how many functions there may be, and that nothing is asked of them ahead of that.
func TestCheckFuncs(t *testing.T) {
	for _, n := range []int{0, 1, 2, 31, 32, 33, 34, 1000} {
		want := api.Fault{}
		if n < 1 || n > 32 {
			want.Err = api.ErrFuncs
		}
		p := api.Program{Funcs: make([]api.Func, n)}
		for number := range p.Funcs {
			p.Funcs[number] = leaf()
		}
		wants(t, "so many leaves", p, want)
		if want.Err == api.ErrFuncs {
			wants(t, "so many wrong ones", api.Program{Funcs: make([]api.Func, n)}, want)
		}
	}
	wants(t, "an empty list", api.Program{Funcs: []api.Func{}}, api.Fault{Err: api.ErrFuncs})
}

// 5.1: the shapes, at all their edges.
func TestCheckShape(t *testing.T) {
	for _, c := range []struct {
		params, regs, slots, code int
		right                     bool
	}{
		{0, 1, 0, 1, true}, {1, 1, 0, 1, true}, {8, 8, 8, 512, true}, {0, 16, 8, 512, true}, {8, 16, 0, 2, true},
		{-1, 1, 0, 1, false}, {9, 16, 0, 1, false}, {9, 9, 0, 1, false}, {math.MinInt, 1, 0, 1, false}, {math.MaxInt, math.MaxInt, 0, 1, false},
		{0, 0, 0, 1, false}, {0, -1, 0, 1, false}, {2, 1, 0, 1, false}, {8, 7, 0, 1, false}, {0, 17, 0, 1, false}, {0, math.MaxInt, 0, 1, false}, {0, math.MinInt, 0, 1, false},
		{0, 1, -1, 1, false}, {0, 1, 9, 1, false}, {0, 1, math.MaxInt, 1, false}, {0, 1, math.MinInt, 1, false},
		{0, 1, 0, 0, false}, {0, 1, 0, 513, false}, {0, 1, 0, 2000, false},
	} {
		f := long(c.code)
		f.Params, f.Regs, f.Slots = c.params, c.regs, c.slots
		for number, p := range []api.Program{program(f), program(leaf(), f), program(leaf(), leaf(), f, api.Func{})} {
			want := api.Fault{}
			switch {
			case !c.right:
				want = api.Fault{Err: api.ErrShape, Func: number}
			case number == 2:
				want = api.Fault{Err: api.ErrShape, Func: 3}
			}
			wants(t, "a shape", p, want)
		}
		if got := prog.Flow(f); (got != nil) != c.right {
			t.Errorf("5.4: Flow of a shape %v: %v", c, got)
		}
	}
	bad := forkWith(0, api.Instr{Kind: 77})
	wants(t, "all shapes are looked at first", program(bad, leaf(), api.Func{Regs: 1}), api.Fault{Err: api.ErrShape, Func: 2})
}

// For each kind the fields A, B, C, K: r register, s slot, p place, f function, o operation, - nothing. Of a spawn, C is tested for itself.
var fieldsOf = []string{"r---", "rr--", "rrro", "p---", "rp--", "sf--", "----", "rs--", "r---", "r---"}

// 5.2: each field of each kind at its edges, all the others being right.
func TestCheckFields(t *testing.T) {
	const regs, slots = 3, 2
	sizes := map[byte]int{'r': regs, 's': slots, 'p': 4, 'f': 2, 'o': 16, '-': 0}
	values := []int{math.MinInt, -1 << 32, -1, 0, 1, 2, 3, 4, 5, 15, 16, 17, 1 << 32, math.MaxInt}
	for kind, fields := range fieldsOf {
		for field := range 4 {
			for _, x := range values {
				i := api.Instr{Kind: kind}
				switch field {
				case 0:
					i.A = x
				case 1:
					i.B = x
				case 2:
					i.C = x
				case 3:
					i.K = int64(x)
				}
				f := api.Func{Regs: regs, Slots: slots, Code: []api.Instr{{Kind: api.ISync}, {Kind: api.IJump, A: 3}, i, {Kind: api.IReturn}}}
				want := api.Fault{}
				if fields[field] != '-' && (x < 0 || x >= sizes[fields[field]]) {
					want = api.Fault{Err: api.ErrInstr, Func: 1, At: 2}
				}
				wants(t, "a field", program(leaf(), f), want)
				sound := want.Err == api.OK || kind == api.ISpawn && field == 1
				if got := prog.Flow(f); (got != nil) != sound {
					t.Errorf("5.4: kind %d, field %d = %d: Flow = %v", kind, field, x, got)
				}
			}
		}
	}
}

// 5.2: kinds that are none.
func TestCheckKinds(t *testing.T) {
	for _, kind := range []int{-1, 10, 11, 256, math.MinInt, math.MaxInt} {
		f := forkWith(8, api.Instr{Kind: kind})
		wants(t, "no kind", program(f), api.Fault{Err: api.ErrInstr, At: 8})
		f = forkWith(13, api.Instr{Kind: kind})
		wants(t, "no kind at the end", program(f), api.Fault{Err: api.ErrInstr, At: 13})
		if got := prog.Flow(f); got != nil {
			t.Errorf("5.4: kind %d: Flow = %v", kind, got)
		}
	}
}

// 5.2: the arguments of a spawn, and that no sum runs over.
func TestCheckArguments(t *testing.T) {
	for params := range 9 {
		for _, regs := range []int{1, 5, 8, 16} {
			for _, c := range []int{math.MinInt, -8, -1, 0, 1, 2, 4, 7, 8, 9, 15, 16, 17, math.MaxInt - 7, math.MaxInt - 1, math.MaxInt} {
				callee := api.Func{Params: params, Regs: 16, Code: leaf().Code}
				caller := api.Func{Regs: regs, Slots: 1, Code: []api.Instr{{Kind: api.ISpawn, B: 1, C: c}, {Kind: api.ISync}, {Kind: api.IReturn}}}
				want := api.Fault{}
				if params > 0 && (c < 0 || c > 16 || c+params > regs) {
					want.Err = api.ErrInstr
				}
				wants(t, "arguments", program(caller, callee), want)
				if got := prog.Flow(caller); got == nil {
					t.Errorf("5.4: C %d: Flow is nil", c)
				}
			}
		}
	}
}

// 5.2: the last instruction, behind all instructions of its function and ahead of the next function.
func TestCheckEnd(t *testing.T) {
	for kind := range 10 {
		f := forkWith(13, api.Instr{Kind: kind})
		want := api.Fault{}
		if kind != api.IJump && kind != api.IReturn {
			want = api.Fault{Err: api.ErrEnd, Func: 1, At: 13}
		}
		wants(t, "the last one", program(leaf(), f), want)
		if got := prog.Flow(f); (got == nil) != (want.Err == api.ErrEnd) {
			t.Errorf("5.4: kind %d at the end: Flow = %v", kind, got)
		}
	}
	open := forkWith(13, api.Instr{Kind: api.ISync})
	wrong := forkWith(3, api.Instr{Kind: 77})
	both := forkWith(3, api.Instr{Kind: 77})
	both.Code[13].Kind = api.ISync
	lost := forkWith(8, api.Instr{Kind: api.IReturn})
	wants(t, "the end ahead of the next function", program(open, wrong), api.Fault{Err: api.ErrEnd, At: 13})
	wants(t, "an instruction ahead of the next function's end", program(wrong, open), api.Fault{Err: api.ErrInstr, At: 3})
	wants(t, "an instruction ahead of its function's end", program(both), api.Fault{Err: api.ErrInstr, At: 3})
	wants(t, "an instruction ahead of all slots", program(lost, wrong), api.Fault{Err: api.ErrInstr, Func: 1, At: 3})
	wants(t, "an end ahead of all slots", program(lost, open), api.Fault{Err: api.ErrEnd, Func: 1, At: 13})
}

// The chapter's examples of Check.
func TestCheckExamples(t *testing.T) {
	short, three, none := fork(), fork(), fork()
	short.Code = short.Code[:13]
	three.Regs = 3
	none.Regs = 0
	for _, c := range []struct {
		f    api.Func
		want api.Fault
	}{
		{fork(), api.Fault{}},
		{forkWith(8, api.Instr{Kind: api.IMove}), api.Fault{Err: api.ErrLoad, At: 9}},
		{forkWith(6, api.Instr{Kind: api.ISync}), api.Fault{}},
		{forkWith(7, api.Instr{Kind: api.ISpawn, C: 3}), api.Fault{Err: api.ErrSpawn, At: 7}},
		{forkWith(2, api.Instr{Kind: api.IBranch, A: 2, B: 8}), api.Fault{Err: api.ErrLoad, At: 9}},
		{forkWith(8, api.Instr{Kind: api.IReturn}), api.Fault{Err: api.ErrOpen, At: 8}},
		{short, api.Fault{Err: api.ErrInstr, At: 2}},
		{three, api.Fault{Err: api.ErrInstr, At: 4}},
		{none, api.Fault{Err: api.ErrShape}},
	} {
		wants(t, "an example", program(c.f), c.want)
	}
}

// 5.3: what is done to slots along paths.
func TestCheckSlots(t *testing.T) {
	spawn := func(slot int) api.Instr { return api.Instr{Kind: api.ISpawn, A: slot, B: 1} }
	load := func(slot int) api.Instr { return api.Instr{Kind: api.ILoad, B: slot} }
	jump := func(at int) api.Instr { return api.Instr{Kind: api.IJump, A: at} }
	branch := func(at int) api.Instr { return api.Instr{Kind: api.IBranch, B: at} }
	sync, end := api.Instr{Kind: api.ISync}, api.Instr{Kind: api.IReturn}
	for _, c := range []struct {
		name string
		code []api.Instr
		err  api.Errno
		at   int
	}{
		{"load of an empty one", []api.Instr{load(0), end}, api.ErrLoad, 0},
		{"load of a pending one", []api.Instr{spawn(0), load(0), sync, end}, api.ErrLoad, 1},
		{"load of a full one, again and again", []api.Instr{spawn(0), sync, load(0), sync, load(0), end}, api.OK, 0},
		{"sync does not fill an empty one", []api.Instr{spawn(0), sync, load(1), end}, api.ErrLoad, 2},
		{"load of another slot that is pending", []api.Instr{spawn(0), sync, spawn(1), load(1), sync, end}, api.ErrLoad, 3},
		{"load beside a pending one", []api.Instr{spawn(0), sync, spawn(1), load(0), sync, end}, api.OK, 0},
		{"spawn into a full one", []api.Instr{spawn(0), sync, spawn(0), sync, load(0), end}, api.OK, 0},
		{"load of one that was full", []api.Instr{spawn(0), sync, spawn(0), load(0), sync, end}, api.ErrLoad, 3},
		{"spawn into a pending one", []api.Instr{spawn(2), spawn(2), sync, end}, api.ErrSpawn, 1},
		{"spawn beside a pending one", []api.Instr{spawn(2), spawn(1), spawn(0), sync, end}, api.OK, 0},
		{"return while the last slot is pending", []api.Instr{spawn(2), end}, api.ErrOpen, 1},
		{"return while the first slot is pending", []api.Instr{spawn(0), end}, api.ErrOpen, 1},
		{"return with full ones", []api.Instr{spawn(0), spawn(2), sync, end}, api.OK, 0},
		{"pending for ever", []api.Instr{spawn(0), jump(1)}, api.OK, 0},
		{"a loop that spawns again", []api.Instr{spawn(0), branch(0), sync, end}, api.ErrSpawn, 0},
		{"a loop that syncs", []api.Instr{spawn(0), sync, branch(0), end}, api.OK, 0},
		{"full by one way, empty by the other", []api.Instr{branch(3), spawn(0), sync, load(0), end}, api.ErrLoad, 3},
		{"pending by one way", []api.Instr{branch(2), spawn(0), end}, api.ErrOpen, 2},
		{"either way is full", []api.Instr{branch(3), spawn(0), jump(4), spawn(0), sync, load(0), end}, api.OK, 0},
		{"what no path comes to", []api.Instr{jump(4), load(0), spawn(0), spawn(0), end}, api.OK, 0},
		{"the lowest place, not the first", []api.Instr{jump(3), load(0), end, load(1), jump(1)}, api.ErrLoad, 1},
		{"what was wrong does not end a path", []api.Instr{branch(3), spawn(0), spawn(0), end}, api.ErrSpawn, 2},
		{"a return ahead of a load", []api.Instr{spawn(1), branch(4), load(0), end, end}, api.ErrLoad, 2},
		{"through a wrong place to a lower one", []api.Instr{jump(2), end, spawn(0), spawn(0), jump(1)}, api.ErrOpen, 1},
	} {
		f := api.Func{Regs: 1, Slots: 3, Code: c.code}
		want := api.Fault{Err: c.err, At: c.at}
		wants(t, c.name, program(f, leaf()), want)
		if c.err != api.OK {
			want.Func = 2
			wants(t, c.name, program(leaf(), leaf(), f, api.Func{Regs: 1, Slots: 1, Code: []api.Instr{load(0), end}}), want)
		}
	}
}

// 5.1 to 5.3: on many small programs, Check says what a plain walk along all paths says, with all slots at once.
func TestCheckModel(t *testing.T) {
	r := rand.New(rand.NewSource(5))
	seen := map[api.Errno]int{}
	for range 30000 {
		p := drawProgram(r, r.Intn(3) == 0)
		same := copied(p)
		want := model(p)
		seen[want.Err]++
		wants(t, "a drawn program", p, want)
		if !reflect.DeepEqual(p, same) {
			t.Fatalf("5.9: Check changed a program: %v, want %v", p, same)
		}
		if t.Failed() {
			t.Fatalf("the program is %v", p)
		}
	}
	for _, err := range []api.Errno{api.OK, api.ErrInstr, api.ErrEnd, api.ErrSpawn, api.ErrLoad, api.ErrOpen} {
		if seen[err] < 100 {
			t.Errorf("of the drawn programs only %d come to %d", seen[err], err)
		}
	}
}
