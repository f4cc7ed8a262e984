package serial_test

import (
	"slices"
	"testing"

	"plunder/api"
	"plunder/samples"
	"plunder/serial"
)

// tells asks Tree for its nodes.
func tells(t *testing.T, what string, p api.Program, args []int64, fuel int, want ...api.Node) {
	t.Helper()
	if l, err := serial.Tree(p, args, fuel); err != api.OK || !slices.Equal(l, want) {
		t.Errorf("%s: Tree(.., %v, %d) = %+v, %d, want %+v", what, args, fuel, l, err, want)
	}
}

// The chapter's examples of Tree, and its example 7 as a tree.
func TestTreeExamples(t *testing.T) {
	tells(t, "4", samples.Sum(), []int64{1}, 10, api.Node{Parent: -1, Work: 8, Ped: 1, Arg: 1, V: 1}, api.Node{Work: 2, Ped: 1000004})
	tells(t, "7", samples.Pair(), nil, 11,
		api.Node{Parent: -1, Work: 7, Ped: 1, V: -1},
		api.Node{Func: 1, Work: 2, Ped: 1000004, V: 1000004},
		api.Node{Index: 1, Func: 1, Work: 2, Ped: 1000005, V: 1000005})
	fails(t, "4", samples.Sum(), []int64{1}, 9, api.ErrFuel)
}

// 6.7: the whole of one child's tree stands ahead of the next child; Arg is what a task was begun with.
func TestTreeOrder(t *testing.T) {
	// f0 spawns f1(3), f2, waits, and spawns f1(4); f1(n) spawns f2 and f3(n + 1, n); f3(a, b) spoils its arguments and tells a * b.
	p := program(
		fn(1, 2, 2, konst(1, 3), spawn(1, 1, 1), konst(1, 1000), spawn(0, 2, 0), sync(), konst(1, 4), spawn(0, 1, 1), sync(), load(0, 1), give(0)),
		fn(1, 3, 2, move(2, 0), konst(1, 1), arith(1, 0, api.Add, 1), konst(0, 77), spawn(0, 2, 0), spawn(1, 3, 1), sync(), load(0, 1), give(0)),
		fn(0, 2, 0, konst(0, 8), give(0)),
		fn(2, 2, 0, arith(0, 0, api.Mul, 1), konst(1, 55), give(0)),
	)
	const root, first, third = 1, 1000003 + 1, 1000003 + 3
	tells(t, "6.7", p, []int64{-9}, 100,
		api.Node{Parent: -1, Index: 0, Func: 0, Work: 10, Ped: root, Arg: -9, V: 12},
		api.Node{Parent: 0, Index: 0, Func: 1, Work: 9, Ped: first, Arg: 3, V: 12},
		api.Node{Parent: 1, Index: 0, Func: 2, Work: 2, Ped: first*1000003 + 1, Arg: 0, V: 8},
		api.Node{Parent: 1, Index: 1, Func: 3, Work: 3, Ped: first*1000003 + 2, Arg: 4, V: 12},
		api.Node{Parent: 0, Index: 1, Func: 2, Work: 2, Ped: 1000003 + 2, Arg: 0, V: 8},
		api.Node{Parent: 0, Index: 2, Func: 1, Work: 9, Ped: third, Arg: 4, V: 20},
		api.Node{Parent: 5, Index: 0, Func: 2, Work: 2, Ped: third*1000003 + 1, Arg: 0, V: 8},
		api.Node{Parent: 5, Index: 1, Func: 3, Work: 3, Ped: third*1000003 + 2, Arg: 5, V: 20},
	)
}

// 6.7: the greatest trees: as deep as may be, and of as many tasks as the fuel allows.
func TestTreeSizes(t *testing.T) {
	l, err := serial.Tree(samples.Sum(), []int64{4095}, api.MaxFuel)
	if err != api.OK || len(l) != 4096 {
		t.Fatalf("6.7: %d nodes, %d", len(l), err)
	}
	for number, node := range l {
		n := int64(4095 - number)
		work := 8
		if n == 0 {
			work = 2
		}
		pedigree := int64(1)
		if number > 0 {
			pedigree = serial.Ped(l[number-1].Ped, 0)
		}
		if want := (api.Node{Parent: number - 1, Work: work, Ped: pedigree, Arg: n, V: n * (n + 1) / 2}); node != want {
			t.Fatalf("6.7: node %d is %+v, want %+v", number, node, want)
		}
	}
	// as many tasks as there can be, and then none is told
	many := fn(0, 1, 8)
	for slot := range 8 {
		many.Code = append(many.Code, spawn(slot, 1, 0))
	}
	many.Code = append(many.Code, sync(), jump(0))
	fails(t, "6.7", program(many, fn(0, 1, 0, give(0))), nil, api.MaxFuel, api.ErrFuel)
	wide := program(fn(1, 3, 1, spawn(0, 1, 0), sync(), konst(1, 1), arith(0, 0, api.Sub, 1), branch(0, 0), give(2)), fn(0, 1, 0, give(0)))
	l, err = serial.Tree(wide, []int64{600000}, api.MaxFuel)
	if err != api.OK || len(l) != 600001 || l[0].Work != 3000001 || l[600000] != (api.Node{Index: 599999, Func: 1, Work: 1, Ped: 1000003 + 600000}) {
		t.Errorf("6.7: %d nodes, %d", len(l), err)
	}
}

// 6.12: what Tree tells is memory of its own.
func TestTreeMemory(t *testing.T) {
	p := samples.Fib()
	first, _ := serial.Tree(p, []int64{5}, 1000)
	kept := slices.Clone(first)
	clear(first[:cap(first)])
	if again, _ := serial.Tree(p, []int64{5}, 1000); !slices.Equal(again, kept) || len(kept) != 15 {
		t.Errorf("6.12: a tree shows a change of an earlier one: %v, want %v", again, kept)
	}
	clear(p.Funcs[0].Code)
	again, _ := serial.Tree(samples.Fib(), []int64{5}, 1000)
	if !slices.Equal(again, kept) {
		t.Errorf("6.12: a tree shows a change of an earlier program: %v, want %v", again, kept)
	}
}
