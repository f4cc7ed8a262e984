package gen

import (
	"plunder/api"
	"plunder/asm"
)

// ranging writes the function for the ranges of a reduce or an each. Its parameters are the values of the expression's kids (of a reduce the unit, of both the range's end and the grain) and then the range's first index, which moves on in a leaf.
type ranging struct {
	listing
	self, body, comb int  // numbers of functions
	folds            bool // whether it is a reduce's
	hi, grain, lo    int  // registers of parameters; a reduce's unit is in the first one
	left             int  // from here on stand the arguments of the left half; those of the right half are its own, with another first index
}

// Registers behind those of a reduce's arguments and of its left half's. The sum and the item stand side by side, as the combining function takes them; in an each the sum is 0 all the time.
const (
	sum = 2*4 + iota
	item
	size
	one
	more
	rangeRegs
)

// rangeFunc is the function for the ranges of a reduce or an each, which is to have the number self.
func (w *whole) rangeFunc(e api.Expr, self int) api.Func {
	last := len(e.Kids)
	r := ranging{self: self, body: w.numbers[e.Name], comb: w.numbers[e.Comb], folds: e.Kind == api.EReduce,
		hi: last - 2, grain: last - 1, lo: last, left: last + 1}
	r.put(asm.Const(one, 1), asm.Arith(more, r.grain, api.Max, one))
	r.put(asm.Arith(size, r.hi, api.Sub, r.lo), asm.Arith(more, more, api.Lt, size))
	long := r.put(asm.Branch(more, unknown))
	r.leaf()
	r.land(long)
	r.halves()
	return asm.Func(r.left, rangeRegs, 2, r.code...)
}

// leaf writes what is done for a range that is not halved. Of all ranges only the first one may have no index.
func (r *ranging) leaf() {
	if r.folds {
		r.put(asm.Move(sum, 0))
	}
	again := r.put(asm.Arith(more, r.lo, api.Lt, r.hi))
	some := r.put(asm.Branch(more, unknown))
	r.put(asm.Return(sum))
	r.land(some)
	r.put(asm.Spawn(0, r.body, r.lo), asm.Sync())
	r.merge(asm.Load(item, 0))
	r.put(asm.Arith(r.lo, r.lo, api.Add, one), asm.Jump(again))
}

// halves writes what is done for a range that is halved: both go on side by side.
func (r *ranging) halves() {
	mid := r.left + r.hi
	r.put(asm.Const(mid, 2), asm.Arith(mid, size, api.Div, mid), asm.Arith(mid, r.lo, api.Add, mid))
	for own := range r.left {
		if own != r.hi {
			r.put(asm.Move(r.left+own, own))
		}
	}
	r.put(asm.Spawn(0, r.self, r.left), asm.Move(r.lo, mid), asm.Spawn(1, r.self, 0), asm.Sync())
	r.merge(asm.Load(sum, 0), asm.Load(item, 1))
	r.put(asm.Return(sum))
}

// merge writes how two values, one or both of which are loaded, become the sum. An each looks at no value.
func (r *ranging) merge(loads ...api.Instr) {
	if r.folds {
		r.put(loads...)
		r.put(asm.Spawn(0, r.comb, sum), asm.Sync(), asm.Load(sum, 0))
	}
}
