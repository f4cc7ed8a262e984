package hyper

import (
	"slices"

	"plunder/ops"
)

// kind is a kind of views: what can be done with what one of them holds. put and join may write into what they are given: only what they answer goes on.
type kind[T any] struct {
	fresh func() T
	put   func(held T, loc int64) T
	join  func(left, right T) T
	tell  func(held T) T
}

// lists is the kind of views that hold all that was put into them.
func lists() kind[[]int64] {
	return kind[[]int64]{
		fresh: func() []int64 { return nil },
		put:   func(held []int64, loc int64) []int64 { return append(held, loc) },
		join:  func(left, right []int64) []int64 { return append(left, right...) },
		tell:  func(held []int64) []int64 { return slices.Clone(held) }, // the view goes on
	}
}

// numbers is the kind of views that hold one number, by an operation that has a unit.
func numbers(op int, unit int64) kind[int64] {
	apply := func(a, b int64) int64 {
		v, _ := ops.Apply(op, a, b) // what has a unit is an operation
		return v
	}
	return kind[int64]{
		fresh: func() int64 { return unit },
		put:   apply,
		join:  apply,
		tell:  func(held int64) int64 { return held },
	}
}
