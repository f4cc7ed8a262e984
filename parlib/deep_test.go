package parlib_test

import (
	"math"
	"testing"

	"plunder/api"
	"plunder/asm"
	"plunder/parlib"
	"plunder/serial"
)

// deepBase has a body that goes down so deep for one index, and for the others does nothing: function 0 body, function 1 the way down, function 2 add.
func deepBase(index int64, depth int) api.Program {
	return asm.Program(
		asm.Func(1, 3, 1,
			asm.Const(1, index), asm.Arith(1, 1, api.Eq, 0), asm.Branch(1, 4), asm.Return(0),
			asm.Const(1, int64(depth-2)), asm.Spawn(0, 1, 1), asm.Sync(), asm.Return(0)),
		asm.Func(1, 3, 1,
			asm.Branch(0, 2), asm.Return(0),
			asm.Const(1, 1), asm.Arith(1, 0, api.Sub, 1), asm.Spawn(0, 1, 1), asm.Sync(), asm.Return(0)),
		two(api.Add))
}

// 13.4: a call that goes down as deep as MaxDepth - 140 comes to a value in both programs, however many halvings are above it.
func TestDeep(t *testing.T) {
	for _, c := range []struct{ n, grain, index int64 }{{1, 1, 0}, {2, 1, 1}, {3, 2, 1}, {1000, 1, 999}, {50000, 1, 0}, {50000, 1, 49999}, {100000, 1000, 31}} {
		base := deepBase(c.index, api.MaxDepth-140)
		p, _ := parlib.Reduce(base, 0, 2, 0)
		q, _ := parlib.For(base, 0)
		args := []int64{c.n, c.grain}
		if v, err := serial.Eval(p, args, api.MaxFuel); err != api.OK || v.V != c.n*(c.n-1)/2 || v.Depth <= api.MaxDepth-140 {
			t.Errorf("13.4: %+v: Reduce's program comes to %+v, %d", c, v, err)
		}
		if v, err := serial.Eval(q, args, api.MaxFuel); err != api.OK || v.V != 0 || v.Depth <= api.MaxDepth-140 {
			t.Errorf("13.4: %+v: For's program comes to %+v, %d", c, v, err)
		}
	}
}

// 13.7: in a fold each call begins at depth 1, and the first that goes too deep ends it, if the fuel takes it there.
func TestFoldDeep(t *testing.T) {
	base := deepBase(2, api.MaxDepth)
	if v, err := parlib.Fold(base, 0, 2, 0, 9, 1, api.MaxFuel); v != 36 || err != api.OK {
		t.Errorf("13.7: a call of the depth MaxDepth: %d, %d", v, err)
	}
	base = deepBase(2, api.MaxDepth+1)
	if v, err := parlib.Fold(base, 0, 2, 0, 2, 1, api.MaxFuel); v != 1 || err != api.OK {
		t.Errorf("13.7: ahead of the call that is too deep: %d, %d", v, err)
	}
	// ahead of it in a leaf of all: twice 4 of the body and 2 of add; 5 of the body itself, 4 of each task below it
	const just = 2*(4+2) + 5 + 4*(api.MaxDepth-1)
	for _, n := range []int64{3, 9, math.MaxInt64} {
		for fuel, want := range map[int]api.Errno{0: api.ErrFuel, just - 1: api.ErrFuel, just: api.ErrDeep, api.MaxFuel: api.ErrDeep} {
			if v, err := parlib.Fold(base, 0, 2, 0, n, math.MaxInt64, fuel); v != 0 || err != want {
				t.Errorf("13.7: n %d with the fuel %d: %d, %d, want %d", n, fuel, v, err, want)
			}
		}
	}
}

// 13.7: all the fuel there is: 3 for each index of a leaf; with the grain 1, 2 more for each halving.
func TestFoldMost(t *testing.T) {
	const one, halves = api.MaxFuel / 3, (api.MaxFuel + 2) / 5
	for _, c := range []struct {
		n, grain, v int64
		err         api.Errno
	}{
		{one, math.MaxInt64, one * (one - 1) / 2, api.OK}, {one + 1, math.MaxInt64, 0, api.ErrFuel},
		{halves, 1, halves * (halves - 1) / 2, api.OK}, {math.MaxInt64, 1, 0, api.ErrFuel},
	} {
		if v, err := parlib.Fold(theBase(), id, add, 0, c.n, c.grain, api.MaxFuel); v != c.v || err != c.err {
			t.Errorf("13.7: n %d, grain %d: %d, %d, want %d, %d", c.n, c.grain, v, err, c.v, c.err)
		}
	}
}

// 13.4: n may be as great as it goes; a program for it runs out of fuel.
func TestMost(t *testing.T) {
	p, _ := parlib.Reduce(theBase(), id, add, 0)
	q, _ := parlib.For(theBase(), id)
	for _, made := range []api.Program{p, q} {
		for _, grain := range []int64{math.MinInt64, 1, 1 << 40, math.MaxInt64 - 1, math.MaxInt64} {
			if v, err := serial.Eval(made, []int64{math.MaxInt64, grain}, 100000); err != api.ErrFuel {
				t.Errorf("13.4: the greatest n with the grain %d: %+v, %d", grain, v, err)
			}
		}
	}
}

// 13.6: halves go on side by side: with a long body the span is that of one leaf, not of all.
func TestSpan(t *testing.T) {
	slow := asm.Func(1, 3, 0, asm.Const(1, 700), asm.Const(2, 1), asm.Arith(1, 1, api.Sub, 2), asm.Branch(1, 2), asm.Return(0)) // 1403
	slower := asm.Func(2, 4, 0, asm.Const(2, 900), asm.Const(3, 1), asm.Arith(2, 2, api.Sub, 3), asm.Branch(2, 2), asm.Return(0))
	base := asm.Program(slow, slower)
	for _, a := range []ask{{n: 64, grain: 1}, {n: 65, grain: 1}, {n: 64, grain: 16}, {n: 1, grain: 1}, {n: 33, grain: 100}, {n: 100, grain: 7}} {
		a.base, a.comb = base, 1
		checkMade(t, a, api.MaxFuel)
	}
}
