package parlib_test

import (
	"math"
	"reflect"
	"slices"
	"testing"

	"plunder/api"
	"plunder/asm"
	"plunder/ops"
	"plunder/parlib"
	"plunder/samples"
	"plunder/serial"
)

const (
	most  = math.MaxInt64
	least = math.MinInt64
)

// 13.7: the examples of the chapter, and others that were worked out by hand.
func TestFold(t *testing.T) {
	square := 3
	base := theBase(asm.Func(1, 2, 1, asm.Move(1, 0), asm.Spawn(0, 4, 0), asm.Sync(), asm.Load(0, 0), asm.Return(0)), two(api.Mul))
	for i, c := range []struct {
		body, comb     int
		unit, n, grain int64
		fuel           int
		v              int64
		err            api.Errno
	}{
		{id, add, 0, 5, 1, 1000, 10, api.OK}, {id, sub, 0, 4, 4, 1000, -6, api.OK}, {id, sub, 0, 4, 1, 1000, 0, api.OK}, {id, sub, 0, 3, 2, 1000, 3, api.OK},
		{id, add, 7, 0, 1, 0, 7, api.OK}, {id, add, 7, -5, 0, 0, 7, api.OK}, {id, add, 0, 1, 1, 0, 0, api.ErrFuel},
		// a unit that is none comes in once a leaf: 3, 2 and 1 leaves
		{id, add, 100, 3, 1, 1000, 303, api.OK}, {id, add, 100, 3, 2, 1000, 203, api.OK}, {id, add, 100, 3, 3, 1000, 103, api.OK},
		// [0, 7) with the grain 2: [0, 1) [1, 3) [3, 5) [5, 7): ((9) - (9 - 1 - 2)) - ((9 - 3 - 4) - (9 - 5 - 6))
		{id, sub, 9, 7, 2, 1000, -1, api.OK},
		{square, add, 0, 5, 2, 1000, 30, api.OK}, {square, sub, 1, 3, most, 1000, -4, api.OK},
		{id, add, 7, least, most, api.MaxFuel, 7, api.OK}, {id, add, least, 0, least, 5, least, api.OK},
		{id, add, 0, 6, 0, 1000, 15, api.OK}, {id, add, 0, 6, -3, 1000, 15, api.OK}, {id, add, 0, 6, least, 1000, 15, api.OK}, {id, add, 0, 6, most, 1000, 15, api.OK},
		{id, add, most, 2, 5, 1000, least, api.OK},
		{id, add, 0, 1, 1, 1, 0, api.ErrFuel}, {id, add, 0, 1, 1, 2, 0, api.ErrFuel}, {id, add, 5, 1, 1, 3, 5, api.OK},
		{id, add, 0, 2, 1, 7, 0, api.ErrFuel}, {id, add, 0, 2, 1, 8, 1, api.OK}, {id, add, 0, 2, 2, 5, 0, api.ErrFuel}, {id, add, 0, 2, 2, 6, 1, api.OK},
		{id, add, 0, most, 1, 1000, 0, api.ErrFuel}, {id, add, 0, most, most, 1000, 0, api.ErrFuel}, {id, add, 0, most, 1 << 62, 1000, 0, api.ErrFuel},
	} {
		if v, err := parlib.Fold(base, c.body, c.comb, c.unit, c.n, c.grain, c.fuel); v != c.v || err != c.err {
			t.Errorf("13.7: case %d: Fold = %d, %d, want %d, %d", i, v, err, c.v, c.err)
		}
		if c.err != api.OK {
			continue
		}
		p, err := parlib.Reduce(base, c.body, c.comb, c.unit)
		checkForm(t, base, p)
		if v, e := serial.Eval(p, []int64{c.n, c.grain}, 2000); err != api.OK || e != api.OK || v.V != c.v {
			t.Errorf("13.4: case %d: Reduce's program comes to %d, %d, %d, want %d", i, v.V, err, e, c.v)
		}
	}
}

// 13.4, 13.5: the last two examples of the chapter.
func TestExamples(t *testing.T) {
	p, err := parlib.Reduce(theBase(), id, add, 0)
	if v, e := serial.Eval(p, []int64{10, 3}, 1000); err != api.OK || e != api.OK || v.V != 45 {
		t.Errorf("13.4: Reduce's program comes to %+v, %d, %d", v, err, e)
	}
	p, err = parlib.For(theBase(), id)
	if v, e := serial.Eval(p, []int64{10, 3}, 1000); err != api.OK || e != api.OK || v.V != 0 {
		t.Errorf("13.4: For's program comes to %+v, %d, %d", v, err, e)
	}
}

// 13.1, 13.2, 13.7: what is refused, in its order.
func TestRefused(t *testing.T) {
	none := asm.Func(0, 1, 0, asm.Return(0))
	many := func(n int) api.Program {
		return theBase(slices.Repeat([]api.Func{none}, n-3)...)
	}
	hidden := asm.Func(0, 1, 0, asm.Return(0), asm.Ped(0), asm.Return(0)) // an IPed that no path comes to
	open := asm.Func(0, 1, 1, asm.Spawn(0, 0, 0), asm.Return(0))
	wide := theBase(none, asm.Func(8, 8, 0, asm.Return(0)))
	for i, c := range []struct {
		base       api.Program
		body, comb int
		each       api.Errno // of For
		reduce     api.Errno
		fold       api.Errno // with right fuel
	}{
		{api.Program{}, id, add, api.ErrBase, api.ErrBase, api.ErrBase},
		{api.Program{}, -1, 99, api.ErrBase, api.ErrBase, api.ErrBase},
		{theBase(api.Func{}), id, add, api.ErrBase, api.ErrBase, api.ErrBase},
		{theBase(open), id, add, api.ErrBase, api.ErrBase, api.ErrBase},
		{theBase(hidden), id, add, api.ErrBase, api.ErrBase, api.ErrBase},
		{theBase(hidden), 9, 9, api.ErrBase, api.ErrBase, api.ErrBase},
		{samples.Pair(), 0, 0, api.ErrBase, api.ErrBase, api.ErrBase},
		{many(33), id, add, api.ErrBase, api.ErrBase, api.ErrBase},
		{theBase(), sub, add, api.ErrBody, api.ErrBody, api.ErrBody},
		{theBase(), 3, 9, api.ErrBody, api.ErrBody, api.ErrBody},
		{theBase(), -1, id, api.ErrBody, api.ErrBody, api.ErrBody},
		{theBase(), math.MaxInt, add, api.ErrBody, api.ErrBody, api.ErrBody},
		{theBase(), math.MinInt, add, api.ErrBody, api.ErrBody, api.ErrBody},
		{wide, 3, add, api.ErrBody, api.ErrBody, api.ErrBody},
		{wide, 4, add, api.ErrBody, api.ErrBody, api.ErrBody},
		{many(29), sub, id, api.ErrBody, api.ErrBody, api.ErrBody},
		{theBase(), id, id, api.OK, api.ErrComb, api.ErrComb},
		{theBase(), id, 3, api.OK, api.ErrComb, api.ErrComb},
		{theBase(), id, -1, api.OK, api.ErrComb, api.ErrComb},
		{theBase(), id, math.MaxInt, api.OK, api.ErrComb, api.ErrComb},
		{theBase(), id, math.MinInt, api.OK, api.ErrComb, api.ErrComb},
		{wide, id, 3, api.OK, api.ErrComb, api.ErrComb},
		{wide, id, 4, api.OK, api.ErrComb, api.ErrComb},
		{many(29), id, 5, api.ErrAdd, api.ErrComb, api.ErrComb},
		{many(29), id, add, api.ErrAdd, api.ErrAdd, api.OK},
		{many(32), id, add, api.ErrAdd, api.ErrAdd, api.OK},
		{many(28), id, add, api.OK, api.OK, api.OK},
	} {
		p, each := parlib.For(c.base, c.body)
		q, reduce := parlib.Reduce(c.base, c.body, c.comb, 5)
		if each != c.each || reduce != c.reduce {
			t.Errorf("13.1, 13.2: case %d: For answers %d, Reduce %d, want %d, %d", i, each, reduce, c.each, c.reduce)
		}
		if each != api.OK && p.Funcs != nil || reduce != api.OK && q.Funcs != nil {
			t.Errorf("R4: case %d: a program beside an error", i)
		}
		if v, err := parlib.Fold(c.base, c.body, c.comb, 5, 4, 4, 1000); err != c.fold || err != api.OK && v != 0 || err == api.OK && v != 11 {
			t.Errorf("13.7: case %d: Fold answers %d, %d, want %d", i, v, err, c.fold)
		}
		wrongFuel(t, c.base, c.body, c.comb, c.fold)
	}
}

// wrongFuel: fuel is looked at last, whatever n is.
func wrongFuel(t *testing.T, base api.Program, body, comb int, want api.Errno) {
	t.Helper()
	if want == api.OK {
		want = api.ErrArg
	}
	for _, fuel := range []int{-1, math.MinInt, api.MaxFuel + 1, math.MaxInt} {
		for _, n := range []int64{-1, 0, 1, most} {
			if v, err := parlib.Fold(base, body, comb, 5, n, 1, fuel); v != 0 || err != want {
				t.Errorf("13.7: Fold of %d with the fuel %d answers %d, %d, want %d", n, fuel, v, err, want)
			}
		}
	}
}

// 13.1, 13.2: a base of one function, of 28, and one whose body and comb stand last or first, spawn themselves and each other.
func TestBases(t *testing.T) {
	// down(n): n and what down(n - 1) comes to; 0 for 0
	down := func(self int) api.Func {
		return asm.Func(1, 4, 1, asm.Branch(0, 2), asm.Return(0),
			asm.Const(1, 1), asm.Arith(2, 0, api.Sub, 1), asm.Spawn(0, self, 2), asm.Sync(), asm.Load(3, 0), asm.Arith(3, 3, api.Add, 0), asm.Return(3))
	}
	// mix(a, b): a * 3 + down(b)
	mix := func(down int) api.Func {
		return asm.Func(2, 4, 1, asm.Spawn(0, down, 1), asm.Const(2, 3), asm.Arith(0, 0, api.Mul, 2), asm.Sync(), asm.Load(1, 0), asm.Arith(0, 0, api.Add, 1), asm.Return(0))
	}
	fill := slices.Repeat([]api.Func{asm.Func(0, 1, 0, asm.Return(0))}, 26)
	for i, a := range []ask{
		{base: asm.Program(down(0), mix(0)), body: 0, comb: 1},
		{base: asm.Program(mix(1), down(1)), body: 1, comb: 0},
		{base: asm.Program(append(slices.Clone(fill), down(26), mix(26))...), body: 26, comb: 27},
		{base: asm.Program(append(slices.Clone(fill), mix(27), down(27))...), body: 27, comb: 26},
	} {
		a.unit, a.n, a.grain = 1, 4, 2
		// the leaves are 1 * 3 + down(0), times 3, and down(down(1)): 10; ((1 * 3 + down(3)) * 3 + down(6)): 48; 10 * 3 + down(48)
		const want = 30 + 48*49/2
		if v, err := parlib.Fold(a.base, a.body, a.comb, a.unit, a.n, a.grain, 100000); v != want || err != api.OK {
			t.Errorf("13.7: base %d: Fold = %d, %d, want %d", i, v, err, want)
		}
		checkMade(t, a, 100000)
	}
	one := asm.Program(down(0))
	if p, err := parlib.For(one, 0); err != api.OK || checkForm(t, one, p) < 1 {
		t.Errorf("13.1: a base of one function: %d", err)
	}
}

// 13.7, what follows: with an operation and its unit it is the fold from the left, whatever the grain.
func TestUnits(t *testing.T) {
	// body(i): a number with many bits
	body := asm.Func(1, 2, 0, asm.Const(1, 0x5deece66d3a51c7), asm.Arith(0, 0, api.Mul, 1), asm.Arith(0, 0, api.Add, 1), asm.Return(0))
	var list []int64
	for n := int64(0); n <= 13; n++ {
		for op := range api.NumOps {
			unit, ok := ops.Unit(op)
			if !ok {
				continue
			}
			want, _ := ops.Fold(op, list)
			base := asm.Program(two(op), body)
			p, _ := parlib.Reduce(base, 1, 0, unit)
			for _, grain := range []int64{least, 0, 1, 2, 3, 4, 5, 7, 12, 13, 14, most} {
				v, err := parlib.Fold(base, 1, 0, unit, n, grain, 1000)
				made, e := serial.Eval(p, []int64{n, grain}, 3000)
				if v != want || err != api.OK || made.V != want || e != api.OK {
					t.Fatalf("13.7, P11: operation %d, n %d, grain %d: Fold %d, %d, Reduce %d, %d, want %d", op, n, grain, v, err, made.V, e, want)
				}
			}
		}
		const factor = 0x5deece66d3a51c7
		list = append(list, n*factor+factor)
	}
}

// R3: what is handed in is not changed and not kept, and what is handed out is new.
func TestMemory(t *testing.T) {
	base := theBase(asm.Func(1, 1, 1, asm.Spawn(0, 4, 0), asm.Sync(), asm.Return(0)), asm.Func(1, 1, 0, asm.Return(0)))
	same := samples.Copied(base)
	makes := []func(p api.Program) (api.Program, api.Errno){
		func(p api.Program) (api.Program, api.Errno) { return parlib.For(p, 3) },
		func(p api.Program) (api.Program, api.Errno) { return parlib.Reduce(p, 3, add, 8) },
	}
	for _, makes := range makes {
		want, _ := makes(base)
		got, err := makes(same)
		if err != api.OK || !reflect.DeepEqual(got, want) || !samples.Untouched(same, base) {
			t.Fatalf("R3: of %v came %v, %d, want %v", same, got, err, want)
		}
		for _, f := range got.Funcs {
			_ = append(f.Code, api.Instr{Kind: -1})
		}
		_ = append(got.Funcs, api.Func{})
		if !reflect.DeepEqual(got, want) || !samples.Untouched(same, base) {
			t.Errorf("R3: an append shows in another list")
		}
		for f := range same.Funcs {
			clear(same.Funcs[f].Code)
		}
		clear(same.Funcs)
		if !reflect.DeepEqual(got, want) {
			t.Errorf("R3: what was handed in is kept")
		}
		same = samples.Copied(base)
		for f := range got.Funcs {
			clear(got.Funcs[f].Code)
		}
		if again, _ := makes(same); !reflect.DeepEqual(again, want) || !samples.Untouched(same, base) {
			t.Errorf("R3: what was handed out is kept")
		}
	}
	parlib.Fold(same, 3, add, 8, 9, 2, 1000)
	if !samples.Untouched(same, base) {
		t.Errorf("R3: Fold changed %v to %v", base, same)
	}
}
