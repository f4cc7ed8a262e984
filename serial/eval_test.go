package serial_test

import (
	"math"
	"math/big"
	"testing"

	"plunder/api"
	"plunder/ops"
	"plunder/prog"
	"plunder/samples"
	"plunder/serial"
)

// comes asks Eval for a value.
func comes(t *testing.T, what string, p api.Program, args []int64, fuel int, want api.Value) {
	t.Helper()
	if fault := prog.Check(p); fault.Err != api.OK {
		t.Fatalf("%s: the program is not valid: %v", what, fault)
	}
	if v, err := serial.Eval(p, args, fuel); err != api.OK || v != want {
		t.Errorf("%s: Eval(.., %v, %d) = %+v, %d, want %+v, OK", what, args, fuel, v, err, want)
	}
}

// fails asks Eval and Tree for an error.
func fails(t *testing.T, what string, p api.Program, args []int64, fuel int, want api.Errno) {
	t.Helper()
	if v, err := serial.Eval(p, args, fuel); err != want || v != (api.Value{}) {
		t.Errorf("%s: Eval(.., %v, %d) = %+v, %d, want nothing, %d", what, args, fuel, v, err, want)
	}
	if l, err := serial.Tree(p, args, fuel); err != want || len(l) != 0 {
		t.Errorf("%s: Tree(.., %v, %d) = %d nodes, %d, want none, %d", what, args, fuel, len(l), err, want)
	}
}

// value asks Eval for what a program of one task comes to, in which each instruction costs 1.
func value(t *testing.T, what string, p api.Program, args []int64, work int, want int64) {
	t.Helper()
	comes(t, what, p, args, 1000, api.Value{V: want, Work: work, Tasks: 1, Depth: 1, Span: work})
}

// The chapter's examples of Eval.
func TestEvalExamples(t *testing.T) {
	comes(t, "1", samples.Sum(), []int64{0}, 100, api.Value{V: 0, Work: 2, Tasks: 1, Depth: 1, Span: 2})
	comes(t, "2", samples.Sum(), []int64{1}, 100, api.Value{V: 1, Work: 10, Tasks: 2, Depth: 2, Span: 10})
	comes(t, "3", samples.Sum(), []int64{3}, 26, api.Value{V: 6, Work: 26, Tasks: 4, Depth: 4, Span: 26})
	fails(t, "3", samples.Sum(), []int64{3}, 25, api.ErrFuel)
	fails(t, "5", samples.Sum(), []int64{}, 9, api.ErrArity)
	fails(t, "5", samples.Sum(), []int64{}, -1, api.ErrArity)
	fails(t, "5", samples.Sum(), []int64{1}, -1, api.ErrArg)
	fails(t, "5", program(), nil, 9, api.ErrProgram)
	fails(t, "6", samples.Sum(), []int64{-1}, api.MaxFuel, api.ErrDeep)
	fails(t, "6", samples.Sum(), []int64{-1}, 16384, api.ErrDeep)
	fails(t, "6", samples.Sum(), []int64{-1}, 16383, api.ErrFuel)
	comes(t, "7", samples.Pair(), nil, 11, api.Value{V: -1, Work: 11, Tasks: 3, Depth: 2, Span: 9})
}

// 6.1: the arguments stand in the first registers, in order, and the others hold 0.
func TestRegistersAtTheBeginning(t *testing.T) {
	args := []int64{5, -7, 11, 1 << 62, -1, math.MinInt64, math.MaxInt64, 2}
	for params := range 9 {
		for reg := range 16 {
			want := int64(0)
			if reg < params {
				want = args[reg]
			}
			value(t, "6.1", program(fn(params, 16, 0, give(reg))), args[:params], 1, want)
		}
	}
}

// 6.1: a child has registers of its own, which are 0 but for its arguments, however often its function was run ahead of it.
func TestRegistersOfTheirOwn(t *testing.T) {
	// f1 adds what it is given to all its registers but the first, and tells their sum.
	p := program(
		fn(0, 4, 2, konst(0, 10), konst(1, 20), konst(2, 30), konst(3, 40), spawn(0, 1, 0), sync(), spawn(1, 1, 1), sync(), load(0, 0), load(3, 1), arith(0, 0, api.Mul, 3), arith(0, 0, api.Add, 1), arith(0, 0, api.Add, 2), give(0)),
		fn(1, 3, 0, arith(1, 1, api.Add, 0), arith(2, 2, api.Add, 0), konst(0, 999), arith(1, 1, api.Add, 2), give(1)),
	)
	// 20 and 40 from the children, 20 and 30 as they were
	comes(t, "6.1", p, nil, 100, api.Value{V: 20*40 + 20 + 30, Work: 24, Tasks: 3, Depth: 2, Span: 24})
}

// 6.1: a child has slots of its own: what its children leave does not come into its parent's.
func TestSlotsOfTheirOwn(t *testing.T) {
	p := program(
		fn(0, 2, 2, spawn(0, 2, 0), sync(), konst(0, 1), spawn(1, 1, 0), sync(), load(0, 0), load(1, 1), arith(0, 0, api.Mul, 1), give(0)),
		fn(1, 1, 2, spawn(1, 3, 0), sync(), spawn(0, 3, 0), sync(), load(0, 1), give(0)),
		fn(0, 1, 0, konst(0, 6), give(0)),
		fn(0, 1, 0, konst(0, 7), give(0)),
	)
	comes(t, "6.1", p, nil, 100, api.Value{V: 42, Work: 21, Tasks: 5, Depth: 3, Span: 21})
}

// 6.1: the entry is function 0, and a task begins at instruction 0, also if it is gone back to later.
func TestEntry(t *testing.T) {
	p := program(fn(1, 3, 0, konst(1, 1), arith(0, 0, api.Sub, 1), arith(2, 2, api.Add, 1), branch(0, 0), give(2)), fn(0, 1, 0, give(0)), fn(3, 3, 0, give(0)))
	value(t, "6.1", p, []int64{4}, 17, 4)
}

// 6.2: what each kind that computes does, at the edges of numbers and where registers are the same one.
func TestComputing(t *testing.T) {
	numbers := []int64{0, 1, -1, 2, -7, 63, 64, 1 << 40, math.MaxInt64, math.MinInt64}
	for _, a := range numbers {
		value(t, "IConst", program(fn(0, 16, 0, konst(15, a), give(15))), nil, 2, a)
		value(t, "IMove", program(fn(1, 3, 0, move(2, 0), give(2))), []int64{a}, 2, a)
		value(t, "IMove leaves the other", program(fn(2, 2, 0, move(1, 0), give(0))), []int64{a, 5}, 2, a)
		value(t, "IMove to itself", program(fn(1, 1, 0, move(0, 0), give(0))), []int64{a}, 2, a)
		for _, b := range numbers {
			for op := range api.NumOps {
				want, _ := ops.Apply(op, a, b)
				value(t, "IArith", program(fn(2, 3, 0, arith(2, 0, op, 1), give(2))), []int64{a, b}, 2, want)
				value(t, "IArith into its first", program(fn(2, 2, 0, arith(0, 0, op, 1), give(0))), []int64{a, b}, 2, want)
				value(t, "IArith into its second", program(fn(2, 2, 0, arith(1, 0, op, 1), give(1))), []int64{a, b}, 2, want)
			}
		}
	}
	value(t, "IPed of the root", program(fn(0, 2, 0, ped(1), give(1))), nil, 2, 1)
}

// 6.2: which instruction follows, forwards and backwards, and that a branch is taken at every number but 0.
func TestJumping(t *testing.T) {
	value(t, "IJump", program(fn(0, 1, 0, jump(2), give(0), konst(0, 3), jump(1))), nil, 4, 3)
	for _, a := range []int64{1, -1, 2, 1 << 32, math.MaxInt64, math.MinInt64, -256} {
		value(t, "IBranch taken", program(fn(1, 2, 0, branch(0, 3), konst(1, 7), give(1), konst(1, 8), give(1))), []int64{a}, 3, 8)
	}
	value(t, "IBranch not taken", program(fn(1, 2, 0, branch(0, 3), konst(1, 7), give(1), konst(1, 8), give(1))), []int64{0}, 3, 7)
	value(t, "IBranch to the next", program(fn(1, 1, 0, branch(0, 1), give(0))), []int64{3}, 2, 3)
	value(t, "IBranch back", program(fn(1, 2, 0, konst(1, 1), arith(0, 0, api.Add, 1), branch(0, 1), give(0))), []int64{-5}, 12, 0)
	value(t, "ISync of no child", program(fn(1, 1, 1, sync(), sync(), give(0))), []int64{9}, 3, 9)
}

// 6.2: fields that a kind does not look at may hold anything.
func TestFieldsOfNoMeaning(t *testing.T) {
	wild := func(i api.Instr) api.Instr {
		if i.Kind != api.IMove && i.Kind != api.IBranch && i.Kind != api.ISpawn && i.Kind != api.ILoad {
			i.B = math.MinInt
		}
		if i.Kind == api.ISync {
			i.A = math.MaxInt
		}
		i.C, i.K = math.MaxInt, math.MinInt64
		return i
	}
	p := program(
		fn(1, 2, 1, wild(branch(0, 2)), wild(jump(4)), wild(move(1, 0)), wild(jump(4)), wild(spawn(0, 1, 0)), wild(sync()), wild(load(0, 0)), wild(give(0))),
		fn(0, 1, 0, wild(ped(0)), wild(give(0))),
	)
	comes(t, "5.2", p, []int64{0}, 100, api.Value{V: 1000004, Work: 8, Tasks: 2, Depth: 2, Span: 8})
	comes(t, "5.2", p, []int64{1}, 100, api.Value{V: 1000004, Work: 9, Tasks: 2, Depth: 2, Span: 9})
}

// 6.2: a child takes as many registers from C on as its function has parameters; without a parameter, C may be any number.
func TestArguments(t *testing.T) {
	tell := func(params, reg int) api.Func { return fn(params, 16, 0, give(reg)) }
	for params := range 9 {
		for first := 0; first+params <= 16; first++ {
			for reg := range 9 {
				main := api.Func{Regs: 16, Slots: 1}
				for r := range 16 {
					main.Code = append(main.Code, konst(r, int64(100+r)))
				}
				main.Code = append(main.Code, spawn(0, 1, first), sync(), load(0, 0), give(0))
				want := int64(0)
				if reg < params {
					want = int64(100 + first + reg)
				}
				comes(t, "6.2", program(main, tell(params, reg)), nil, 100, api.Value{V: want, Work: 21, Tasks: 2, Depth: 2, Span: 21})
			}
		}
	}
	for _, first := range []int{math.MinInt, math.MinInt + 1, -1, 16, 17, 1 << 40, math.MaxInt} {
		p := program(fn(0, 1, 1, konst(0, 5), spawn(0, 1, first), sync(), load(0, 0), give(0)), tell(0, 0))
		comes(t, "6.2: no parameter", p, nil, 100, api.Value{V: 0, Work: 6, Tasks: 2, Depth: 2, Span: 6})
	}
}

// 6.2: a child's value comes into the slot that its spawn names, and stays there until the next one comes.
func TestSlots(t *testing.T) {
	same := fn(1, 1, 0, give(0))
	for slot := range 8 {
		main := api.Func{Regs: 2, Slots: 8}
		for s := range 8 {
			main.Code = append(main.Code, konst(0, int64(10+s)), spawn(s, 1, 0))
		}
		main.Code = append(main.Code, konst(0, 99), sync(), load(1, slot), give(1))
		// the last child ends at 17, the sync stands at 18
		comes(t, "6.2", program(main, same), nil, 100, api.Value{V: int64(10 + slot), Work: 28, Tasks: 9, Depth: 2, Span: 20})
	}
	twice := fn(0, 3, 1, konst(0, 3), spawn(0, 1, 0), sync(), load(1, 0), konst(0, 5), spawn(0, 1, 0), sync(), load(2, 0), load(0, 0), arith(1, 1, api.Mul, 2), arith(1, 1, api.Add, 0), give(1))
	comes(t, "6.2: a slot again", program(twice, same), nil, 100, api.Value{V: 20, Work: 14, Tasks: 3, Depth: 2, Span: 14})
}

// 6.3: Ped, by numbers without bounds.
func TestPed(t *testing.T) {
	numbers := []int64{0, 1, -1, 2, 1000004, 1 << 31, 1 << 32, 1 << 62, -1 << 62, math.MaxInt64 - 1, math.MaxInt64, math.MinInt64, math.MinInt64 + 1, 9223363}
	round := new(big.Int).Lsh(big.NewInt(1), 64)
	for _, parent := range numbers {
		for _, k := range numbers {
			x := new(big.Int).Mul(big.NewInt(parent), big.NewInt(1000003))
			x.Add(x, big.NewInt(k)).Add(x, big.NewInt(1)).Mod(x, round)
			if want := int64(x.Uint64()); serial.Ped(parent, int(k)) != want {
				t.Errorf("6.3: Ped(%d, %d) = %d, want %d", parent, k, serial.Ped(parent, int(k)), want)
			}
		}
	}
	if v := serial.Ped(1<<62, 2); v != -4611686018427387901 {
		t.Errorf("6.3: example 8: %d", v)
	}
	if a, b := serial.Ped(1, 0), serial.Ped(0, -1); a != 1000004 || b != 0 {
		t.Errorf("6.3: example 8: %d, %d", a, b)
	}
}

// 6.3: children are counted over the whole task, over all its syncs, whatever slots and functions they have.
func TestPedOverSyncs(t *testing.T) {
	p := program(
		fn(0, 2, 2, spawn(1, 1, 0), sync(), spawn(0, 2, 0), spawn(1, 1, 0), sync(), sync(), spawn(1, 1, 0), sync(), load(0, 1), give(0)),
		fn(0, 1, 0, ped(0), give(0)),
		fn(0, 1, 1, spawn(0, 1, 0), sync(), load(0, 0), give(0)),
	)
	comes(t, "6.3", p, nil, 100, api.Value{V: 1000003 + 4, Work: 22, Tasks: 6, Depth: 3, Span: 19})
	p.Funcs[0].Code[8] = load(0, 0)
	comes(t, "6.3", p, nil, 100, api.Value{V: (1000003+2)*1000003 + 1, Work: 22, Tasks: 6, Depth: 3, Span: 19})
}

// 6.4, 6.5: depth is that of the deepest task, however many there are beside one another, and goes up to MaxDepth.
func TestDepth(t *testing.T) {
	wide := program(fn(1, 3, 1, spawn(0, 1, 0), sync(), konst(1, 1), arith(0, 0, api.Sub, 1), branch(0, 0), give(2)), fn(0, 1, 0, give(0)))
	comes(t, "6.4", wide, []int64{5000}, api.MaxFuel, api.Value{V: 0, Work: 30001, Tasks: 5001, Depth: 2, Span: 30001})
	for _, n := range []int64{0, 1, 2, 100, 4094, 4095} {
		comes(t, "6.4", samples.Sum(), []int64{n}, api.MaxFuel, api.Value{V: n * (n + 1) / 2, Work: int(8*n + 2), Tasks: int(n + 1), Depth: int(n + 1), Span: int(8*n + 2)})
	}
	for _, n := range []int64{4096, 4097, 100000, -1, math.MaxInt64, math.MinInt64} {
		fails(t, "6.5", samples.Sum(), []int64{n}, api.MaxFuel, api.ErrDeep)
	}
}

// 6.4: a run that has gone as deep as it may comes up and goes down again.
func TestDeepAgain(t *testing.T) {
	p := program(
		fn(1, 2, 2, spawn(0, 1, 0), sync(), spawn(1, 1, 0), spawn(0, 1, 0), sync(), load(0, 0), load(1, 1), arith(0, 0, api.Add, 1), give(0)),
		fn(1, 4, 2, branch(0, 2), give(0), konst(1, 1), arith(2, 0, api.Sub, 1), spawn(0, 1, 2), sync(), load(3, 0), arith(3, 3, api.Add, 0), give(3)),
	)
	const one = 8*4094 + 2
	comes(t, "6.4", p, []int64{4094}, api.MaxFuel, api.Value{V: 4094 * 4095, Work: 9 + 3*one, Tasks: 1 + 3*4095, Depth: 4096, Span: 1 + one + 1 + 2 + one + 5})
	fails(t, "6.5", p, []int64{4095}, api.MaxFuel, api.ErrDeep)
}

// 6.5: the errors, in their order.
func TestErrors(t *testing.T) {
	forever := program(fn(1, 1, 0, jump(0)))
	faulty := []api.Program{
		{}, program(make([]api.Func, 33)...), program(api.Func{}), program(fn(1, 0, 0, give(0))),
		program(fn(0, 1, 0, give(1))), program(fn(0, 1, 0, sync())), program(fn(0, 1, 0, api.Instr{Kind: 10})), program(fn(0, 1, 0, jump(1))),
		program(fn(0, 1, 1, spawn(0, 0, 0), spawn(0, 0, 0), sync(), give(0))), program(fn(0, 1, 1, load(0, 0), give(0))), program(fn(0, 1, 1, spawn(0, 0, 0), give(0))),
		program(fn(0, 1, 0, give(0)), fn(0, 1, 0, konst(0, 1))), program(fn(0, 1, 0, jump(2), give(9), give(0))),
	}
	for _, p := range faulty {
		for _, args := range [][]int64{nil, {1}, {1, 2}} {
			for _, fuel := range []int{0, 1, 100, -1, api.MaxFuel, api.MaxFuel + 1} {
				fails(t, "a faulty program", p, args, fuel, api.ErrProgram)
			}
		}
	}
	for _, fuel := range []int{0, 1, 100, -1, math.MinInt, api.MaxFuel, api.MaxFuel + 1, math.MaxInt} {
		for _, args := range [][]int64{nil, {}, {1, 2}, make([]int64, 8), make([]int64, 100000)} {
			fails(t, "a wrong number of arguments", forever, args, fuel, api.ErrArity)
		}
		fails(t, "an argument too many", program(fn(0, 1, 0, give(0))), []int64{0}, fuel, api.ErrArity)
		fails(t, "an argument too few", program(fn(8, 8, 0, give(0))), make([]int64, 7), fuel, api.ErrArity)
	}
	for _, fuel := range []int{-1, -2, math.MinInt, api.MaxFuel + 1, math.MaxInt} {
		fails(t, "wrong fuel", forever, []int64{1}, fuel, api.ErrArg)
		fails(t, "wrong fuel", program(fn(0, 1, 0, give(0))), nil, fuel, api.ErrArg)
	}
}

// 6.5: fuel that does, just does not, and never does.
func TestFuel(t *testing.T) {
	forever := program(fn(0, 1, 0, jump(0)))
	for _, fuel := range []int{0, 1, 2, 1000, api.MaxFuel} {
		fails(t, "a run without an end", forever, nil, fuel, api.ErrFuel)
	}
	leaf := program(fn(0, 1, 0, give(0)))
	fails(t, "no fuel", leaf, nil, 0, api.ErrFuel)
	comes(t, "just enough", leaf, nil, 1, api.Value{Work: 1, Tasks: 1, Depth: 1, Span: 1})
	count := program(fn(1, 2, 0, konst(1, 1), arith(0, 0, api.Sub, 1), branch(0, 1), give(0)))
	most := api.Value{Work: api.MaxFuel, Tasks: 1, Depth: 1, Span: api.MaxFuel}
	comes(t, "all the fuel there is", count, []int64{api.MaxFuel/2 - 1}, api.MaxFuel, most)
	fails(t, "one less", count, []int64{api.MaxFuel/2 - 1}, api.MaxFuel-1, api.ErrFuel)
	fails(t, "a round more", count, []int64{api.MaxFuel / 2}, api.MaxFuel, api.ErrFuel)
}

// 6.5: the spawn that goes too deep is paid for first; what was run beside it has cost fuel too.
func TestFuelOrDeep(t *testing.T) {
	down := program(fn(0, 1, 1, spawn(0, 0, 0), sync(), give(0)))
	fails(t, "6.5", down, nil, 4095, api.ErrFuel)
	fails(t, "6.5", down, nil, 4096, api.ErrDeep)
	fails(t, "6.5", down, nil, api.MaxFuel, api.ErrDeep)
	beside := program(fn(0, 1, 1, spawn(0, 1, 0), sync(), spawn(0, 0, 0), sync(), give(0)), fn(0, 1, 0, give(0)))
	// four instructions in each task, but in the deepest one it is the first spawn that goes too deep
	fails(t, "6.5", beside, nil, 4*4095, api.ErrFuel)
	fails(t, "6.5", beside, nil, 4*4095+1, api.ErrDeep)
}

// 6.6: spans, worked out by hand.
func TestSpan(t *testing.T) {
	long := fn(0, 1, 0, sync(), sync(), sync(), sync(), give(0)) // 5
	short := fn(0, 1, 0, give(0))                                // 1
	for _, c := range []struct {
		what        string
		main        api.Func
		work, tasks int
		span        int
	}{
		{"a sync waits for the longest, which is the first", fn(0, 1, 2, spawn(0, 1, 0), spawn(1, 2, 0), sync(), give(0)), 10, 3, 8},
		{"a sync waits for the longest, which is the last", fn(0, 1, 2, spawn(0, 2, 0), spawn(1, 1, 0), sync(), give(0)), 10, 3, 9},
		{"a task that takes longer than its child", fn(0, 1, 1, spawn(0, 2, 0), konst(0, 0), konst(0, 0), sync(), give(0)), 6, 2, 5},
		{"a task that takes just as long", fn(0, 1, 1, spawn(0, 2, 0), konst(0, 0), sync(), give(0)), 5, 2, 4},
		{"a child that takes longer by one", fn(0, 1, 1, konst(0, 0), spawn(0, 2, 0), sync(), give(0)), 5, 2, 5},
		{"two waits, one behind the other", fn(0, 1, 1, spawn(0, 1, 0), sync(), spawn(0, 1, 0), sync(), give(0)), 15, 3, 15},
		{"a second sync waits for nobody", fn(0, 1, 1, spawn(0, 1, 0), sync(), sync(), sync(), give(0)), 10, 2, 10},
		{"a short one behind a wait for a long one", fn(0, 1, 1, spawn(0, 1, 0), sync(), spawn(0, 2, 0), konst(0, 0), konst(0, 0), sync(), give(0)), 13, 3, 12},
		{"syncs ahead of all spawns", fn(0, 1, 1, sync(), sync(), spawn(0, 2, 0), sync(), give(0)), 6, 2, 6},
	} {
		comes(t, "6.6: "+c.what, program(c.main, long, short), nil, 100, api.Value{Work: c.work, Tasks: c.tasks, Depth: 2, Span: c.span})
	}
	// fib(n)'s span: 3 + 1 below 2; else 6 up to the first child's end, which is the later one, and 5 behind it.
	span := []int{4, 4}
	for n := 2; n < 12; n++ {
		span = append(span, max(6+span[n-1], 8+span[n-2])+5)
		if v, err := serial.Eval(samples.Fib(), []int64{int64(n)}, api.MaxFuel); err != api.OK || v.Span != span[n] || v.Depth != n {
			t.Errorf("6.6: fib(%d): %+v, %d, want the span %d, the depth %d", n, v, err, span[n], n)
		}
	}
}
