package mean

import "plunder/api"

// ranged is a reduce or an each, when its kids have been evaluated. An each has no comb and no unit.
type ranged struct {
	body, comb  string
	unit, grain int64
}

// halved tells where a range is to be cut in two, if it is too long to be gone through from the left.
func (r *ranged) halved(lo, hi int64) (mid int64, cut bool) {
	if hi-lo <= max(r.grain, 1) {
		return 0, false
	}
	return lo + (hi-lo)/2, true
}

func (t *turn) reduce(e *api.Expr) int64 {
	kids := t.all(e.Kids)
	unit, n, grain := kids[0], kids[1], kids[2]
	if n <= 0 {
		return unit
	}
	return t.fold(&ranged{body: e.Name, comb: e.Comb, unit: unit, grain: grain}, 0, n)
}

func (t *turn) fold(r *ranged, lo, hi int64) int64 {
	t.run.step()
	if mid, cut := r.halved(lo, hi); cut {
		left := t.fold(r, lo, mid)
		right := t.fold(r, mid, hi)
		return t.stepAndCall(r.comb, left, right)
	}
	v := r.unit
	for i := lo; i < hi; i++ {
		item := t.stepAndCall(r.body, i)
		v = t.stepAndCall(r.comb, v, item)
	}
	return v
}

func (t *turn) each(e *api.Expr) int64 {
	kids := t.all(e.Kids)
	n, grain := kids[0], kids[1]
	if n > 0 {
		t.visit(&ranged{body: e.Name, grain: grain}, 0, n)
	}
	return 0
}

func (t *turn) visit(r *ranged, lo, hi int64) {
	t.run.step()
	if mid, cut := r.halved(lo, hi); cut {
		t.visit(r, lo, mid)
		t.visit(r, mid, hi)
		return
	}
	for i := lo; i < hi; i++ {
		t.stepAndCall(r.body, i)
	}
}

// stepAndCall calls a function for a range, which no expression has made a step for.
func (t *turn) stepAndCall(name string, args ...int64) int64 {
	t.run.step()
	return t.call(name, args...)
}
