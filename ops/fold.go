package ops

import "plunder/api"

// Fold folds a list from the left, from the unit on.
func Fold(op int, list []int64) (int64, api.Errno) {
	v, err := foldUnit(op, len(list))
	if err != api.OK {
		return 0, err
	}
	for _, x := range list {
		v = work(op, v, x)
	}
	return v, api.OK
}

// Tree folds a list by halves.
func Tree(op int, list []int64) (int64, api.Errno) {
	unit, err := foldUnit(op, len(list))
	if err != api.OK {
		return 0, err
	}
	if len(list) == 0 {
		return unit, api.OK
	}
	return halves(op, list), api.OK
}

// foldUnit holds what the two folds refuse, and in which order.
func foldUnit(op, length int) (int64, api.Errno) {
	if !isOp(op) {
		return 0, api.ErrOp
	}
	unit, ok := Unit(op)
	if !ok {
		return 0, api.ErrUnit
	}
	if length > api.MaxFold {
		return 0, api.ErrLong
	}
	return unit, api.OK
}

// halves wants at least one element.
func halves(op int, list []int64) int64 {
	if len(list) == 1 {
		return list[0]
	}
	half := len(list) / 2
	return work(op, halves(op, list[:half]), halves(op, list[half:]))
}
