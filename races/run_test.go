package races_test

import (
	"math"
	"math/rand"
	"slices"
	"testing"

	"plunder/api"
	"plunder/asm"
	"plunder/gen"
	"plunder/ops"
	"plunder/prog"
	"plunder/races"
	"plunder/samples"
	"plunder/serial"
	"plunder/sources"
)

func leaf() api.Func { return asm.Func(0, 1, 0, asm.Return(0)) }

// one is the program of the chapter's example.
func one() api.Program {
	return asm.Program(asm.Func(0, 1, 1, asm.Spawn(0, 1, 0), asm.Sync(), asm.Load(0, 0), asm.Return(0)), leaf())
}

// rounds is a program of n rounds of spawn and sync, four deeds each, and then these instructions.
func rounds(n int64, behind ...api.Instr) api.Program {
	code := []api.Instr{asm.Const(0, n), asm.Const(1, 1), asm.Spawn(0, 1, 0), asm.Sync(), asm.Arith(0, 0, api.Sub, 1), asm.Branch(0, 2)}
	return asm.Program(asm.Func(0, 2, 1, append(append(code, behind...), asm.Return(0))...), leaf())
}

// 19.7: the chapter's example, and others by hand.
func TestOfExamples(t *testing.T) {
	// function 1 is a leaf, function 2 has one as its child
	with := func(slots int, code ...api.Instr) api.Program {
		return asm.Program(asm.Func(0, 1, slots, code...), leaf(), one().Funcs[0])
	}
	// it spawns a leaf into its slot 7
	last := asm.Program(asm.Func(0, 1, 1, asm.Spawn(0, 1, 0), asm.Sync(), asm.Return(0)), asm.Func(0, 1, 8, asm.Spawn(7, 2, 0), asm.Sync(), asm.Load(0, 7), asm.Load(0, 7), asm.Return(0)), leaf())
	for _, c := range []struct {
		what string
		p    api.Program
		args []int64
		want string
	}{
		{"the example", one(), nil, "S w0 R Y r0"},
		{"no deeds", samples.Count(), []int64{5}, ""},
		{"a sync alone", with(0, asm.Sync(), asm.Sync(), asm.Return(0)), nil, "Y Y"},
		{"two children", samples.Pair(), nil, "S w0 R S w1 R Y r0 r1"},
		{"a slot twice", with(1, asm.Spawn(0, 1, 0), asm.Sync(), asm.Load(0, 0), asm.Spawn(0, 1, 0), asm.Sync(), asm.Load(0, 0), asm.Return(0)), nil, "S w0 R Y r0 S w0 R Y r0"},
		{"a value that nobody reads", rounds(1), nil, "S w0 R Y"},
		{"the last slot of task 1", last, nil, "S S w15 R Y r15 r15 w0 R Y"},
		{"tasks 1 and 3 have children", with(3, asm.Spawn(2, 2, 0), asm.Spawn(1, 2, 0), asm.Sync(), asm.Load(0, 1), asm.Return(0)), nil, "S S w8 R Y r8 w2 R S S w24 R Y r24 w1 R Y r1"},
		{"sums", samples.Sum(), []int64{2}, "S S w8 R Y r8 w0 R Y r0"},
	} {
		deeds, err := races.Of(c.p, c.args, 100)
		if err != api.OK || !slices.Equal(deeds, list(c.want)) {
			t.Errorf("19.7: %s: Of = %s, %d, want %s", c.what, text(deeds), err, c.want)
		}
	}
}

// 19.7: the errors of Eval, and too many deeds.
func TestOfRefuses(t *testing.T) {
	for _, c := range []struct {
		what string
		p    api.Program
		args []int64
		fuel int
		want api.Errno
	}{
		{"just enough fuel", one(), nil, 5, api.OK},
		{"too little fuel", one(), nil, 4, api.ErrFuel},
		{"no fuel", one(), nil, 0, api.ErrFuel},
		{"an argument too many", one(), []int64{1}, 9, api.ErrArity},
		{"arity ahead of fuel", one(), []int64{1}, -1, api.ErrArity},
		{"fuel below", one(), nil, -1, api.ErrArg},
		{"fuel above", one(), nil, api.MaxFuel + 1, api.ErrArg},
		{"the least fuel", one(), nil, math.MinInt, api.ErrArg},
		{"no functions", api.Program{}, nil, 9, api.ErrProgram},
		{"a read ahead of the sync", asm.Program(asm.Func(0, 1, 1, asm.Spawn(0, 1, 0), asm.Load(0, 0), asm.Sync(), asm.Return(0)), leaf()), nil, 9, api.ErrProgram},
		{"no end", asm.Program(asm.Func(0, 1, 0, asm.Sync(), asm.Jump(0))), nil, api.MaxFuel, api.ErrFuel},
		{"too deep", samples.Sum(), []int64{-1}, api.MaxFuel, api.ErrDeep},
		{"the most deeds", rounds(1024), nil, api.MaxFuel, api.OK},
		{"a sync more", rounds(1024, asm.Sync()), nil, api.MaxFuel, api.ErrLong},
		{"a read more", rounds(1024, asm.Load(0, 0)), nil, api.MaxFuel, api.ErrLong},
		{"a round more", rounds(1025), nil, api.MaxFuel, api.ErrLong},
		{"many more", rounds(500000), nil, api.MaxFuel, api.ErrLong},
		{"fuel ahead of the length", rounds(1025), nil, 4000, api.ErrFuel},
		{"a round that begins late", rounds(1023, asm.Sync(), asm.Spawn(0, 1, 0), asm.Sync()), nil, api.MaxFuel, api.ErrLong},
	} {
		deeds, err := races.Of(c.p, c.args, c.fuel)
		if err != c.want || err != api.OK && len(deeds) > 0 {
			t.Errorf("19.7: %s: Of = %d deeds, %d, want %d", c.what, len(deeds), err, c.want)
		}
	}
	if deeds, err := races.Of(rounds(1024), nil, api.MaxFuel); len(deeds) != api.MaxDeeds || err != api.OK {
		t.Errorf("19.7: the most deeds: %d, %d", len(deeds), err)
	}
}

// recorder runs a program by the words of chapter 6, and notes deeds by those of 19.7.
type recorder struct {
	p     api.Program
	deeds []api.Deed
	tasks int
	fuel  int
}

func (c *recorder) note(kind int, loc int64) {
	c.deeds = append(c.deeds, api.Deed{Kind: kind, Loc: loc})
}

// play runs a task and tells its value; it stops short where the fuel is used up.
func (c *recorder) play(f int, args []int64, ped int64) int64 {
	fn := c.p.Funcs[f]
	regs, slots := make([]int64, fn.Regs), make([]int64, fn.Slots)
	copy(regs, args)
	number := int64(c.tasks)
	c.tasks++
	for at, spawned := 0, 0; c.fuel > 0; c.fuel-- {
		i := fn.Code[at]
		at++
		switch i.Kind {
		case api.IConst:
			regs[i.A] = i.K
		case api.IMove:
			regs[i.A] = regs[i.B]
		case api.IArith:
			regs[i.A], _ = ops.Apply(int(i.K), regs[i.B], regs[i.C])
		case api.IJump:
			at = i.A
		case api.IBranch:
			if regs[i.A] != 0 {
				at = i.B
			}
		case api.ISpawn:
			c.note(api.DSpawn, 0)
			var handed []int64
			if n := c.p.Funcs[i.B].Params; n > 0 {
				handed = regs[i.C : i.C+n]
			}
			slots[i.A] = c.play(i.B, handed, serial.Ped(ped, spawned))
			spawned++
			c.note(api.DWrite, number*8+int64(i.A))
			c.note(api.DReturn, 0)
		case api.ISync:
			c.note(api.DSync, 0)
		case api.ILoad:
			c.note(api.DRead, number*8+int64(i.B))
			regs[i.A] = slots[i.B]
		case api.IPed:
			regs[i.A] = ped
		case api.IReturn:
			return regs[i.A]
		}
	}
	return 0
}

// tells holds Of against a recorder, and tells how many deeds there are; -1 for an error.
func tells(t *testing.T, p api.Program, args []int64) int {
	t.Helper()
	const fuel = 20000
	deeds, err := races.Of(p, args, fuel)
	_, want := serial.Eval(p, args, fuel)
	c := &recorder{p: p, fuel: fuel + 1}
	if want == api.OK {
		c.play(0, args, 1)
	}
	if len(c.deeds) > api.MaxDeeds {
		want, c.deeds = api.ErrLong, nil
	}
	if err != want || !slices.Equal(deeds, c.deeds) {
		t.Fatalf("19.7: Of(%v, %v) = %v, %d, want %v, %d", p, args, deeds, err, c.deeds, want)
	}
	if err != api.OK {
		return -1
	}
	calmRun(t, p, args, deeds)
	return len(deeds)
}

// calmRun holds 19.8 and P14 against a run's deeds.
func calmRun(t *testing.T, p api.Program, args []int64, deeds []api.Deed) {
	t.Helper()
	if s := races.Check(deeds); s != (api.Spot{}) {
		t.Fatalf("19.7: the deeds of %v with %v: %v", p, args, s)
	}
	if locs, err := races.Detect(deeds); len(locs) > 0 || err != api.OK {
		t.Fatalf("19.8: Detect of the deeds of %v with %v = %v, %d", p, args, locs, err)
	}
	if race, found, err := races.First(deeds); found || err != api.OK {
		t.Fatalf("P14: First of the deeds of %v with %v = %v, %d", p, args, race, err)
	}
}

// 19.7, 19.8, P14: drawn programs, and programs made of drawn sources.
func TestDrawnRuns(t *testing.T) {
	r := rand.New(rand.NewSource(197))
	many, none, compiled := 0, 0, 0
	for range 4000 {
		p := samples.Draw(r.Intn, true)
		switch n := tells(t, p, samples.Args(r.Intn, p)); {
		case n > 30:
			many++
		case n < 0:
			none++
		}
	}
	for range 500 {
		s := sources.Draw(r.Intn)
		if p, fault := gen.Compile(s); fault.Err == api.OK && tells(t, p, sources.Args(r.Intn, s)) > 30 {
			compiled++
		}
	}
	if many < 80 || none < 50 || compiled < 50 {
		t.Errorf("too few runs of many deeds %d, without an answer %d, or compiled %d", many, none, compiled)
	}
}

// 19.8: what holds of valid programs alone: one that reads ahead of its sync would have a race, and so one that spawns into a slot that is pending; the verifier refuses both.
func TestNoRaceButForTheVerifier(t *testing.T) {
	for _, c := range []struct {
		code []api.Instr
		racy string
	}{
		{[]api.Instr{asm.Spawn(0, 1, 0), asm.Load(0, 0), asm.Sync(), asm.Return(0)}, "S w0 R r0 Y"},
		{[]api.Instr{asm.Spawn(0, 1, 0), asm.Spawn(0, 1, 0), asm.Sync(), asm.Return(0)}, "S w0 R S w0 R Y"},
	} {
		p := asm.Program(asm.Func(0, 1, 1, c.code...), leaf())
		rec := &recorder{p: p, fuel: 100}
		rec.play(0, nil, 1)
		if locs, _ := races.Detect(rec.deeds); text(rec.deeds) != c.racy || !slices.Equal(locs, []int64{0}) {
			t.Errorf("19.5: Detect(%s) = %v", text(rec.deeds), locs)
		}
		if prog.Check(p).Err == api.OK {
			t.Errorf("19.8: the verifier takes %v", p)
		}
	}
}

// 19.10: a program and its arguments stay as they are, and the answer is new memory.
func TestOfMemory(t *testing.T) {
	for _, c := range []struct {
		p    api.Program
		args []int64
	}{{samples.Fib(), []int64{6}}, {samples.Sum(), []int64{4}}, {one(), nil}} {
		p := samples.Copied(c.p)
		args := append(slices.Clone(c.args), 77)[:len(c.args)]
		deeds, _ := races.Of(p, args, 1000)
		want := slices.Clone(deeds)
		for k := range deeds[:cap(deeds)] {
			deeds[:cap(deeds)][k] = api.Deed{Kind: -1}
		}
		if again, err := races.Of(p, args, 1000); err != api.OK || !slices.Equal(again, want) {
			t.Errorf("19.10: another answer, once the first was written into")
		}
		if !samples.Untouched(p, c.p) || !slices.Equal(args, c.args) || args[:len(args)+1][len(args)] != 77 {
			t.Errorf("19.10: Of has changed what was handed in")
		}
	}
}
