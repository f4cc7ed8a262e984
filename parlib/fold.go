package parlib

import (
	"plunder/api"
	"plunder/serial"
)

// folding is a fold by halves that is being worked out, call by call.
type folding struct {
	body, comb  api.Program // each with the function that is called as its entry
	unit, grain int64
	fuel        int // what the calls have left so far
}

// whole folds a range that has an index.
func (f *folding) whole(lo, hi int64) (int64, api.Errno) {
	if hi-lo <= f.grain {
		return f.leaf(lo, hi)
	}
	mid := lo + (hi-lo)/2
	left, err := f.whole(lo, mid)
	if err != api.OK {
		return 0, err
	}
	right, err := f.whole(mid, hi)
	if err != api.OK {
		return 0, err
	}
	return f.call(f.comb, left, right)
}

// leaf folds a range from its lowest index on.
func (f *folding) leaf(lo, hi int64) (int64, api.Errno) {
	folded := f.unit
	for i := lo; i < hi; i++ {
		said, err := f.call(f.body, i)
		if err != api.OK {
			return 0, err
		}
		if folded, err = f.call(f.comb, folded, said); err != api.OK {
			return 0, err
		}
	}
	return folded, api.OK
}

// call runs a program with the fuel that is left.
func (f *folding) call(p api.Program, args ...int64) (int64, api.Errno) {
	v, err := serial.Eval(p, args, f.fuel)
	f.fuel -= v.Work
	return v.V, err
}
