// Package ops: the integer operations of the language, and their texts: see doc/01-ops.md.
package ops

import (
	"math"

	"plunder/api"
)

// names is indexed by the operations' numbers, so that Name and Find can not disagree.
var names = [api.NumOps]string{
	api.Add: "+",
	api.Sub: "-",
	api.Mul: "*",
	api.Div: "/",
	api.Rem: "%",
	api.And: "&",
	api.Or:  "|",
	api.Xor: "^",
	api.Shl: "<<",
	api.Shr: ">>",
	api.Min: "min",
	api.Max: "max",
	api.Lt:  "<",
	api.Le:  "<=",
	api.Eq:  "==",
	api.Ne:  "!=",
}

// Apply works an operation out.
func Apply(op int, a, b int64) (int64, api.Errno) {
	if !isOp(op) {
		return 0, api.ErrOp
	}
	return work(op, a, b), api.OK
}

// Name tells an operation's name.
func Name(op int) string {
	if !isOp(op) {
		return ""
	}
	return names[op]
}

// Find tells the operation of a name, or -1.
func Find(name string) int {
	for op, n := range names {
		if n == name {
			return op
		}
	}
	return -1
}

// Unit tells the unit of an operation that is associative.
func Unit(op int) (int64, bool) {
	switch op {
	case api.Add, api.Or, api.Xor:
		return 0, true
	case api.Mul:
		return 1, true
	case api.And:
		return -1, true
	case api.Min:
		return math.MaxInt64, true
	case api.Max:
		return math.MinInt64, true
	}
	return 0, false
}

// Mod brings any number into 0 to n-1.
func Mod(x, n int) int {
	if n < 1 {
		return 0
	}
	r := x % n
	if r < 0 {
		r += n
	}
	return r
}

func isOp(op int) bool {
	return 0 <= op && op < api.NumOps
}

// work is Apply without the look at the number: op is an operation.
func work(op int, a, b int64) int64 {
	switch op {
	case api.Add:
		return a + b
	case api.Sub:
		return a - b
	case api.Mul:
		return a * b
	case api.Div:
		return quotient(a, b)
	case api.Rem:
		return remainder(a, b)
	case api.And:
		return a & b
	case api.Or:
		return a | b
	case api.Xor:
		return a ^ b
	case api.Shl:
		return a << shift(b)
	case api.Shr:
		return a >> shift(b)
	case api.Min:
		return min(a, b)
	case api.Max:
		return max(a, b)
	case api.Lt:
		return number(a < b)
	case api.Le:
		return number(a <= b)
	case api.Eq:
		return number(a == b)
	}
	return number(a != b)
}

func quotient(a, b int64) int64 {
	if b == 0 {
		return 0
	}
	return a / b
}

func remainder(a, b int64) int64 {
	if b == 0 {
		return a
	}
	return a % b
}

// shift keeps the low six bits: in two's complement they are the remainder modulo 64, also below 0.
func shift(b int64) uint {
	return uint(b & 63)
}

func number(holds bool) int64 {
	if holds {
		return 1
	}
	return 0
}
