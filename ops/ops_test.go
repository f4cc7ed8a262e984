package ops_test

import (
	"math"
	"math/big"
	"testing"

	"plunder/api"
	"plunder/ops"
)

// table is the document's table, written out anew: a test that read the program's own would not see it change.
var table = []struct {
	op   int
	name string
}{
	{0, "+"}, {1, "-"}, {2, "*"}, {3, "/"}, {4, "%"}, {5, "&"}, {6, "|"}, {7, "^"},
	{8, "<<"}, {9, ">>"}, {10, "min"}, {11, "max"}, {12, "<"}, {13, "<="}, {14, "=="}, {15, "!="},
}

var noOps = []int{-1, 16, 17, 256, -16, math.MaxInt, math.MinInt}

// edges are the numbers at which wrap-round, signs and shifts turn over.
var edges = []int64{
	0, 1, 2, 3, 5, 7, 10, 62, 63, 64, 65, 127, 128, 1 << 31, 1 << 32, 1<<32 + 3, 3037000500, 1 << 62, math.MaxInt64 - 1, math.MaxInt64,
	-1, -2, -3, -5, -7, -10, -62, -63, -64, -65, -128, -1 << 31, -1 << 32, -3037000500, -1 << 62, math.MinInt64 + 1, math.MinInt64,
}

// wrap tells the int64 that differs from x by a multiple of 2^64.
func wrap(x *big.Int) int64 {
	round := new(big.Int).Lsh(big.NewInt(1), 64)
	r := new(big.Int).Mod(x, round)
	if r.BitLen() == 64 {
		r.Sub(r, round)
	}
	return r.Int64()
}

func truth(holds bool) *big.Int {
	if holds {
		return big.NewInt(1)
	}
	return big.NewInt(0)
}

// exact works an operation out by the table's words, on numbers without bounds.
func exact(op int, a, b int64) int64 {
	x, y, z := big.NewInt(a), big.NewInt(b), new(big.Int)
	s := uint(new(big.Int).Mod(y, big.NewInt(64)).Uint64())
	switch op {
	case api.Add:
		z.Add(x, y)
	case api.Sub:
		z.Sub(x, y)
	case api.Mul:
		z.Mul(x, y)
	case api.Div:
		if b != 0 {
			z.Quo(x, y)
		}
	case api.Rem:
		z.Sub(x, z.Mul(big.NewInt(exact(api.Div, a, b)), y))
	case api.And:
		z.And(x, y)
	case api.Or:
		z.Or(x, y)
	case api.Xor:
		z.Xor(x, y)
	case api.Shl:
		z.Lsh(x, s)
	case api.Shr:
		z.Rsh(x, s)
	case api.Min:
		z = x
		if y.Cmp(x) < 0 {
			z = y
		}
	case api.Max:
		z = x
		if y.Cmp(x) > 0 {
			z = y
		}
	case api.Lt:
		z = truth(x.Cmp(y) < 0)
	case api.Le:
		z = truth(x.Cmp(y) <= 0)
	case api.Eq:
		z = truth(x.Cmp(y) == 0)
	case api.Ne:
		z = truth(x.Cmp(y) != 0)
	}
	return wrap(z)
}

// 1.1
func TestApplyByTheTable(t *testing.T) {
	for op := range api.NumOps {
		for _, a := range edges {
			for _, b := range edges {
				if v, err := ops.Apply(op, a, b); v != exact(op, a, b) || err != api.OK {
					t.Errorf("Apply(%d, %d, %d) = %d, %d, want %d, OK", op, a, b, v, err, exact(op, a, b))
				}
			}
		}
	}
}

// 1.1, and that the operations' constants have the table's numbers.
func TestApplyExamples(t *testing.T) {
	for _, c := range []struct {
		op         int
		a, b, want int64
	}{
		{api.Add, math.MaxInt64, 1, math.MinInt64}, {0, 2, 3, 5},
		{api.Sub, math.MinInt64, 1, math.MaxInt64}, {1, 2, 3, -1},
		{api.Mul, math.MinInt64, -1, math.MinInt64}, {2, -4, 3, -12},
		{api.Div, -7, 2, -3}, {3, 7, -2, -3}, {3, -7, -2, 3}, {3, 7, 0, 0}, {3, math.MinInt64, 0, 0}, {3, math.MinInt64, -1, math.MinInt64},
		{api.Rem, -7, 2, -1}, {4, 7, -2, 1}, {4, 7, 0, 7}, {4, math.MinInt64, 0, math.MinInt64}, {4, math.MinInt64, -1, 0},
		{api.And, 12, 10, 8}, {5, -1, math.MinInt64, math.MinInt64},
		{api.Or, 12, 10, 14}, {6, math.MinInt64, 1, math.MinInt64 + 1},
		{api.Xor, 12, 10, 6}, {7, -1, 5, -6},
		{api.Shl, 1, -1, math.MinInt64}, {8, 1, 64, 1}, {8, 3, 63, math.MinInt64}, {8, 5, math.MinInt64, 5},
		{api.Shr, -8, 65, -4}, {9, -1, 63, -1}, {9, math.MinInt64, -1, -1}, {9, 8, 3, 1},
		{api.Min, 2, -3, -3}, {10, math.MinInt64, math.MaxInt64, math.MinInt64},
		{api.Max, 2, -3, 2}, {11, math.MinInt64, math.MaxInt64, math.MaxInt64},
		{api.Lt, -1, 0, 1}, {12, 0, 0, 0},
		{api.Le, 0, 0, 1}, {13, 1, 0, 0},
		{api.Eq, 4, 4, 1}, {14, 4, 5, 0},
		{api.Ne, 4, 5, 1}, {15, 4, 4, 0},
	} {
		if v, err := ops.Apply(c.op, c.a, c.b); v != c.want || err != api.OK {
			t.Errorf("Apply(%d, %d, %d) = %d, %d, want %d, OK", c.op, c.a, c.b, v, err, c.want)
		}
	}
}

// 1.1
func TestApplyRefusesWhatIsNoOperation(t *testing.T) {
	for _, op := range noOps {
		if v, err := ops.Apply(op, 3, 4); v != 0 || err != api.ErrOp {
			t.Errorf("Apply(%d, 3, 4) = %d, %d, want 0, ErrOp", op, v, err)
		}
	}
}

// 1.2
func TestName(t *testing.T) {
	if len(table) != api.NumOps {
		t.Fatalf("NumOps = %d, want %d", api.NumOps, len(table))
	}
	for _, c := range table {
		if got := ops.Name(c.op); got != c.name {
			t.Errorf("Name(%d) = %q, want %q", c.op, got, c.name)
		}
	}
	for _, op := range noOps {
		if got := ops.Name(op); got != "" {
			t.Errorf("Name(%d) = %q, want the empty string", op, got)
		}
	}
}

// 1.3
func TestFind(t *testing.T) {
	for _, c := range table {
		if got := ops.Find(c.name); got != c.op {
			t.Errorf("Find(%q) = %d, want %d", c.name, got, c.op)
		}
	}
	for _, name := range []string{"", " ", "=<", "=", ">", ">=", "!", "**", "Min", "MIN", "Max", "mi", "mins", "+ ", " +", "+\x00", "add", "0", "\xff", "\u2212"} {
		if got := ops.Find(name); got != -1 {
			t.Errorf("Find(%q) = %d, want -1", name, got)
		}
	}
}

// 1.4
func TestUnitIsTold(t *testing.T) {
	units := map[int]int64{0: 0, 2: 1, 5: -1, 6: 0, 7: 0, 10: math.MaxInt64, 11: math.MinInt64}
	for op := -3; op < api.NumOps+3; op++ {
		want, has := units[op]
		if u, ok := ops.Unit(op); u != want || ok != has {
			t.Errorf("Unit(%d) = %d, %v, want %d, %v", op, u, ok, want, has)
		}
	}
	for _, op := range noOps {
		if u, ok := ops.Unit(op); u != 0 || ok {
			t.Errorf("Unit(%d) = %d, %v, want 0, false", op, u, ok)
		}
	}
}

func apply(t *testing.T, op int, a, b int64) int64 {
	t.Helper()
	v, err := ops.Apply(op, a, b)
	if err != api.OK {
		t.Fatalf("Apply(%d, %d, %d): %d", op, a, b, err)
	}
	return v
}

// 1.4: the laws that the folds lean on.
func TestUnitLaws(t *testing.T) {
	for op := range api.NumOps {
		u, ok := ops.Unit(op)
		if !ok {
			continue
		}
		for i, a := range edges {
			if l, r := apply(t, op, u, a), apply(t, op, a, u); l != a || r != a {
				t.Errorf("operation %d: unit %d with %d comes to %d and %d", op, u, a, l, r)
			}
			b, c := edges[(i*7+3)%len(edges)], edges[(i*11+5)%len(edges)]
			if l, r := apply(t, op, apply(t, op, a, b), c), apply(t, op, a, apply(t, op, b, c)); l != r {
				t.Errorf("operation %d is not associative on %d, %d, %d: %d, %d", op, a, b, c, l, r)
			}
		}
	}
}

// 1.9
func TestModExamples(t *testing.T) {
	for _, c := range []struct{ x, n, want int }{
		{-7, 3, 2}, {7, 3, 1}, {-1, 5, 4}, {0, 5, 0}, {5, 5, 0}, {-5, 5, 0}, {4, 5, 4}, {9, 1, 0}, {-9, 1, 0},
		{7, 0, 0}, {7, -1, 0}, {-7, -3, 0}, {7, math.MinInt, 0}, {math.MinInt, -1, 0},
		{math.MinInt, 64, 0}, {math.MinInt, 3, 1}, {math.MinInt, math.MaxInt, math.MaxInt - 1}, {-1, math.MaxInt, math.MaxInt - 1}, {math.MaxInt, math.MaxInt, 0}, {math.MaxInt, 64, 63},
	} {
		if got := ops.Mod(c.x, c.n); got != c.want {
			t.Errorf("Mod(%d, %d) = %d, want %d", c.x, c.n, got, c.want)
		}
	}
}

// 1.9
func TestModByItsWords(t *testing.T) {
	for _, a := range edges {
		for _, b := range edges {
			want := new(big.Int)
			if b > 0 {
				want.Mod(big.NewInt(a), big.NewInt(b))
			}
			if got := ops.Mod(int(a), int(b)); int64(got) != want.Int64() {
				t.Errorf("Mod(%d, %d) = %d, want %v", a, b, got, want)
			}
		}
	}
}
