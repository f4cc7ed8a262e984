package ops_test

import (
	"math"
	"slices"
	"testing"

	"plunder/api"
	"plunder/ops"
)

type fold func(op int, list []int64) (int64, api.Errno)

// folds: what both promise is asked of both.
var folds = []struct {
	name string
	call fold
}{{"Fold", ops.Fold}, {"Tree", ops.Tree}}

// 1.5, 1.6
func TestFoldExamples(t *testing.T) {
	for _, c := range []struct {
		op   int
		list []int64
		want int64
	}{
		{api.Add, nil, 0}, {api.Add, []int64{}, 0}, {api.Mul, nil, 1}, {api.And, nil, -1}, {api.Or, nil, 0}, {api.Xor, nil, 0}, {api.Min, nil, math.MaxInt64}, {api.Max, nil, math.MinInt64},
		{api.Add, []int64{9}, 9}, {api.Mul, []int64{9}, 9}, {api.And, []int64{9}, 9}, {api.Or, []int64{9}, 9}, {api.Xor, []int64{9}, 9}, {api.Min, []int64{9}, 9}, {api.Max, []int64{-9}, -9},
		{api.Xor, []int64{5, 3, 5}, 3}, {api.Add, []int64{1, 2, 3, 4, 5}, 15}, {api.Add, []int64{math.MaxInt64, 1}, math.MinInt64},
		{api.Mul, []int64{2, 3, 5, 7, 11}, 2310}, {api.Mul, []int64{1 << 40, 1 << 40}, 0},
		{api.And, []int64{15, 6, 3}, 2}, {api.Or, []int64{8, 1, 2}, 11}, {api.Min, []int64{4, -2, 9}, -2}, {api.Max, []int64{-4, -2, -9}, -2},
	} {
		for _, f := range folds {
			if v, err := f.call(c.op, c.list); v != c.want || err != api.OK {
				t.Errorf("%s(%d, %v) = %d, %d, want %d, OK", f.name, c.op, c.list, v, err, c.want)
			}
		}
	}
}

// 1.5, 1.6: of every length near the powers of 2, where halves are uneven.
func TestFoldsAreOneByOneAndByHalves(t *testing.T) {
	for n := range 70 {
		list := make([]int64, n)
		for i := range list {
			list[i] = edges[(i*13+n)%len(edges)]
		}
		before := slices.Clone(list)
		for op := range api.NumOps {
			want, ok := ops.Unit(op)
			if !ok {
				continue
			}
			for _, x := range before {
				want = apply(t, op, want, x)
			}
			for _, f := range folds {
				if v, err := f.call(op, list); v != want || err != api.OK {
					t.Errorf("%s(%d, %v) = %d, %d, want %d, OK", f.name, op, before, v, err, want)
				}
			}
		}
		if !slices.Equal(list, before) {
			t.Errorf("a fold changed its list %v to %v", before, list)
		}
	}
}

// 1.5, 1.6: at the bound, and one beyond it.
func TestFoldLength(t *testing.T) {
	list := make([]int64, 65537)
	for i := range list {
		list[i] = int64(i)
	}
	for _, f := range folds {
		if v, err := f.call(api.Add, list[:65536]); v != 65536*65535/2 || err != api.OK {
			t.Errorf("%s of 65536 elements = %d, %d, want %d, OK", f.name, v, err, 65536*65535/2)
		}
		if v, err := f.call(api.Add, list); v != 0 || err != api.ErrLong {
			t.Errorf("%s of 65537 elements = %d, %d, want 0, ErrLong", f.name, v, err)
		}
	}
}

// 1.5, 1.6: what is refused, and what is refused first.
func TestFoldRefusals(t *testing.T) {
	lists := [][]int64{nil, {}, {1}, {1, 2, 3}, make([]int64, 65537)}
	for _, f := range folds {
		for _, list := range lists {
			for _, op := range noOps {
				if v, err := f.call(op, list); v != 0 || err != api.ErrOp {
					t.Errorf("%s(%d, %d elements) = %d, %d, want 0, ErrOp", f.name, op, len(list), v, err)
				}
			}
			for _, op := range []int{api.Sub, api.Div, api.Rem, api.Shl, api.Shr, api.Lt, api.Le, api.Eq, api.Ne} {
				if v, err := f.call(op, list); v != 0 || err != api.ErrUnit {
					t.Errorf("%s(%d, %d elements) = %d, %d, want 0, ErrUnit", f.name, op, len(list), v, err)
				}
			}
		}
	}
}
