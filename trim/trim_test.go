package trim_test

import (
	"math"
	"reflect"
	"testing"

	"plunder/api"
	"plunder/samples"
	"plunder/serial"
	"plunder/trim"
)

// leaf gives back 0.
func leaf() api.Func { return fn(0, 1, 0, give(0)) }

// sames tells whether two programs are the same, field by field.
func sames(p, q api.Program) bool { return reflect.DeepEqual(p, q) }

// becomes asks what Trim makes of a program, and Neat of both.
func becomes(t *testing.T, what string, p, want api.Program, first api.Fault) {
	t.Helper()
	if got := trim.Neat(p); got != first {
		t.Errorf("18.5: %s: Neat = %v, want %v", what, got, first)
	}
	q, err := trim.Trim(p)
	if err != api.OK || !sames(q, want) {
		t.Errorf("18.6: %s: Trim = %v, %d, want %v", what, q, err, want)
	}
	if got := trim.Neat(want); got != (api.Fault{}) {
		t.Errorf("18.5: %s: Neat of the trimmed program = %v", what, got)
	}
}

func loose(f, at int) api.Fault { return api.Fault{Err: api.ErrLoose, Func: f, At: at} }

// The chapter's examples 1 to 6.
func TestExamples(t *testing.T) {
	one := program(fn(1, 2, 0, konst(1, 5), move(0, 0), give(0)))
	becomes(t, "example 1", one, program(fn(1, 2, 0, give(0))), loose(0, 0))
	if got, want := trim.Live(one, 0), [][]bool{{true, false}, {true, false}, {false, false}}; !reflect.DeepEqual(got, want) {
		t.Errorf("example 1: Live = %v, want %v", got, want)
	}
	becomes(t, "example 2", program(fn(1, 1, 0, jump(2), give(0), jump(1))), program(fn(1, 1, 0, give(0))), loose(0, 0))
	becomes(t, "example 3", program(fn(0, 1, 0, jump(1), jump(0))), program(fn(0, 1, 0, jump(0))), loose(0, 0))
	four := program(fn(1, 2, 0, branch(0, 2), konst(1, 3), give(1)))
	becomes(t, "example 4", four, four, api.Fault{})
	becomes(t, "example 4", program(fn(1, 2, 0, branch(0, 2), konst(1, 3), give(0))), program(fn(1, 2, 0, give(0))), loose(0, 1))
	five := program(fn(0, 1, 1, wait, spawn(0, 1, 0), wait, wait, load(0, 0), give(0)), leaf())
	shorter := program(fn(0, 1, 1, spawn(0, 1, 0), wait, load(0, 0), give(0)), leaf())
	becomes(t, "example 5", five, shorter, loose(0, 0))
	six := program(fn(0, 1, 1, spawn(0, 1, 0), wait, give(0)), leaf())
	becomes(t, "example 6", six, six, api.Fault{})
	for _, c := range []struct {
		p          api.Program
		work, span int
	}{{five, 7, 7}, {shorter, 5, 5}} {
		if v, err := serial.Eval(c.p, nil, 100); err != api.OK || v.Work != c.work || v.Span != c.span {
			t.Errorf("example 5: Eval(%v) = %+v, %d", c.p, v, err)
		}
	}
	if _, err := serial.Eval(program(fn(0, 1, 0, jump(0))), nil, api.MaxFuel); err != api.ErrFuel {
		t.Errorf("example 3: Eval = %d", err)
	}
}

// 18.4: each kind for itself, with its edges; what becomes of it, and of what it leaves loose.
func TestKinds(t *testing.T) {
	ret := give(0)
	for _, c := range []struct {
		what       string
		code, want []api.Instr
		at         int // where the first loose one is, or -1
	}{
		{"1: behind a return", []api.Instr{ret, ret}, []api.Instr{ret}, 1},
		{"1: behind a jump", []api.Instr{branch(0, 2), jump(0), give(1), ret, jump(3)}, []api.Instr{branch(0, 2), jump(0), give(1)}, 3},
		{"1: a round that no path comes to", []api.Instr{ret, jump(2), jump(1)}, []api.Instr{ret}, 1},
		{"1: only jumped to from there", []api.Instr{ret, jump(3), konst(0, 1), ret}, []api.Instr{ret}, 1},
		{"1: a branch that is always taken is none", []api.Instr{konst(1, 1), branch(1, 3), konst(0, 2), ret}, []api.Instr{konst(1, 1), branch(1, 3), konst(0, 2), ret}, -1},
		{"2: at the end of a jump", []api.Instr{branch(0, 2), konst(0, 3), move(0, 0), ret}, []api.Instr{branch(0, 2), konst(0, 3), ret}, 2},
		{"2: with another register it is none", []api.Instr{move(1, 0), arith(0, 0, api.Add, 1), ret}, []api.Instr{move(1, 0), arith(0, 0, api.Add, 1), ret}, -1},
		{"2: other kinds with A the same as B are none", []api.Instr{arith(0, 0, api.Mul, 0), branch(0, 0), ret}, []api.Instr{arith(0, 0, api.Mul, 0), branch(0, 0), ret}, -1},
		{"3: a jump", []api.Instr{konst(0, 1), jump(2), ret}, []api.Instr{konst(0, 1), ret}, 1},
		{"3: a branch", []api.Instr{branch(0, 1), konst(0, 1), ret}, []api.Instr{konst(0, 1), ret}, 0},
		{"3: two, one behind the other", []api.Instr{jump(1), jump(2), ret}, []api.Instr{ret}, 0},
		{"3: branches to the last of them", []api.Instr{branch(0, 3), branch(1, 3), branch(0, 3), ret}, []api.Instr{ret}, 2},
		{"3: a branch whose A is the next place is none", []api.Instr{branch(1, 2), konst(0, 7), ret}, []api.Instr{branch(1, 2), konst(0, 7), ret}, -1},
		{"3: a branch to the next one, a jump", []api.Instr{branch(0, 1), jump(3), ret, konst(0, 9), jump(2)}, []api.Instr{jump(2), ret, konst(0, 9), jump(1)}, 0},
		{"4: a jump", []api.Instr{branch(0, 3), konst(0, 5), jump(5), konst(0, 6), ret, jump(4)}, []api.Instr{branch(0, 3), konst(0, 5), jump(4), konst(0, 6), ret}, 2},
		{"4: a branch to a long chain", []api.Instr{branch(0, 4), ret, give(1), jump(2), jump(5), jump(6), jump(3)}, []api.Instr{branch(0, 2), ret, give(1)}, 0},
		{"4: to one that jumps to itself is none", []api.Instr{branch(0, 2), ret, jump(2)}, []api.Instr{branch(0, 2), ret, jump(2)}, -1},
		{"4: itself is none", []api.Instr{jump(0)}, []api.Instr{jump(0)}, -1},
		{"4: a branch to itself is none", []api.Instr{branch(0, 0), ret}, []api.Instr{branch(0, 0), ret}, -1},
		{"4: a chain to one that jumps to itself", []api.Instr{branch(0, 2), ret, jump(3), jump(3)}, []api.Instr{branch(0, 2), ret, jump(2)}, 0},
		{"4: a round", []api.Instr{branch(0, 3), ret, jump(3), jump(4), jump(2)}, []api.Instr{branch(0, 2), ret, jump(2)}, 0},
		{"4: a branch to a jump to it", []api.Instr{branch(0, 2), ret, jump(0)}, []api.Instr{branch(0, 0), ret}, 0},
		{"4: a jump to a branch is none", []api.Instr{jump(2), give(1), branch(0, 1), ret}, []api.Instr{jump(2), give(1), branch(0, 1), ret}, -1},
		{"5: a constant", []api.Instr{konst(0, 1), konst(0, 2), ret}, []api.Instr{konst(0, 2), ret}, 0},
		{"5: a pedigree", []api.Instr{ped(1), ret}, []api.Instr{ret}, 0},
		{"5: its own reader", []api.Instr{arith(1, 1, api.Add, 0), ret}, []api.Instr{ret}, 0},
		{"5: its own reader, again and again, is none", []api.Instr{arith(1, 1, api.Add, 0), branch(0, 0), ret}, []api.Instr{arith(1, 1, api.Add, 0), branch(0, 0), ret}, -1},
		{"5: one that is read by one that goes", []api.Instr{konst(1, 4), move(1, 1), arith(1, 1, api.Sub, 1), ped(1), ret}, []api.Instr{ret}, 1},
		{"5: by one way it is read", []api.Instr{konst(1, 4), branch(0, 3), konst(1, 5), give(1)}, []api.Instr{konst(1, 4), branch(0, 3), konst(1, 5), give(1)}, -1},
		{"5: by both ways it is written", []api.Instr{konst(1, 4), branch(0, 4), konst(1, 5), jump(5), konst(1, 6), give(1)}, []api.Instr{branch(0, 3), konst(1, 5), jump(4), konst(1, 6), give(1)}, 0},
		{"5: in a loop without an end all of it goes", []api.Instr{konst(0, 1), jump(0)}, []api.Instr{jump(0)}, 0},
		{"6: no slot", []api.Instr{wait, ret}, []api.Instr{ret}, 0},
		{"6: a loop of it", []api.Instr{wait, jump(0)}, []api.Instr{jump(0)}, 0},
	} {
		at := api.Fault{}
		if c.at >= 0 {
			at = loose(1, c.at)
		}
		becomes(t, c.what, program(leaf(), fn(2, 3, 0, c.code...)), program(leaf(), fn(2, 3, 0, c.want...)), at)
	}
}

// 18.4: syncs and slots.
func TestSyncs(t *testing.T) {
	ret := give(0)
	same := func(code ...api.Instr) [2][]api.Instr { return [2][]api.Instr{code, code} }
	for _, c := range []struct {
		what string
		code [2][]api.Instr
		at   int
	}{
		{"the last slot", same(spawn(1, 1, 0), wait, ret), -1},
		{"both slots", same(spawn(1, 1, 0), spawn(0, 1, 0), wait, ret), -1},
		{"pending by one way", same(branch(0, 2), spawn(0, 1, 0), wait, ret), -1},
		{"two ways, a sync in each", [2][]api.Instr{{branch(0, 3), wait, ret, spawn(0, 1, 0), wait, ret}, {branch(0, 2), ret, spawn(0, 1, 0), wait, ret}}, 1},
		{"in a loop, behind its spawn", same(spawn(0, 1, 0), wait, branch(0, 0), ret), -1},
		{"in a loop, ahead of its spawn", same(wait, spawn(0, 1, 0), branch(0, 0), wait, ret), -1},
		{"behind a sync, again and again", [2][]api.Instr{{spawn(0, 1, 0), wait, wait, wait, load(0, 0), ret}, {spawn(0, 1, 0), wait, load(0, 0), ret}}, 2},
		{"a load that nobody reads", [2][]api.Instr{{spawn(0, 1, 0), wait, load(1, 0), ret}, {spawn(0, 1, 0), wait, ret}}, 2},
		{"pending for ever", same(spawn(0, 1, 0), jump(1)), -1},
		{"a sync that is never come to", [2][]api.Instr{{spawn(0, 1, 0), jump(3), wait, wait, ret}, {spawn(0, 1, 0), wait, ret}}, 2},
	} {
		p := program(fn(1, 2, 2, c.code[0]...), leaf())
		at := api.Fault{}
		if c.at >= 0 {
			at = loose(0, c.at)
		}
		becomes(t, c.what, p, program(fn(1, 2, 2, c.code[1]...), leaf()), at)
	}
}

// 18.3, 18.5, 18.6: what is not valid is refused, whatever is wrong with it and wherever.
func TestRefused(t *testing.T) {
	wrong := []api.Func{
		{}, fn(0, 0, 0, give(0)), fn(9, 16, 0, give(0)), fn(0, 1, 0), fn(0, 1, 0, give(1)), fn(0, 1, 0, jump(1)), fn(0, 1, 0, jump(-1)), fn(0, 1, 0, branch(0, 2), give(0)),
		fn(0, 1, 0, move(0, 0)), fn(0, 1, 1, spawn(0, 0, 0), give(0)), fn(0, 1, 1, load(0, 0), give(0)), fn(0, 1, 1, spawn(0, 9, 0), wait, give(0)), fn(0, 1, 0, api.Instr{Kind: 10}, give(0)),
		fn(0, 1, 0, api.Instr{Kind: math.MinInt}, give(0)), fn(0, 1, 0, give(math.MinInt)), fn(0, 1, 0, konst(math.MaxInt, 0), give(0)), fn(0, 1, 1, spawn(0, 2, math.MaxInt), wait, give(0)),
	}
	programs := []api.Program{{}, {Funcs: []api.Func{}}, {Funcs: make([]api.Func, 33)}}
	for _, f := range wrong {
		programs = append(programs, program(f), program(f, leaf(), fn(1, 1, 0, give(0))), program(leaf(), f, fn(1, 1, 0, give(0))), program(fn(0, 1, 0, wait, give(0)), leaf(), fn(1, 1, 0, give(0)), f))
	}
	for _, p := range programs {
		if got := trim.Neat(p); got != (api.Fault{Err: api.ErrProgram}) {
			t.Errorf("18.5: Neat(%v) = %v", p, got)
		}
		if q, err := trim.Trim(p); err != api.ErrProgram || q.Funcs != nil {
			t.Errorf("18.6: Trim(%v) = %v, %d", p, q, err)
		}
		for f := -1; f < 5; f++ {
			if rows := trim.Live(p, f); rows != nil {
				t.Errorf("18.3: Live(%v, %d) = %v", p, f, rows)
			}
		}
	}
	for _, f := range []int{-1, 2, 3, 32, math.MinInt, math.MaxInt} {
		if rows := trim.Live(samples.Pair(), f); rows != nil {
			t.Errorf("18.3: Live of function %d = %v", f, rows)
		}
	}
}

// 18.5: the first function with a loose instruction, and its first one.
func TestFirstLoose(t *testing.T) {
	bad := fn(0, 1, 0, branch(0, 2), give(0), give(0), give(0), move(0, 0), give(0))
	for n := 1; n <= api.MaxFuncs; n++ {
		p := api.Program{}
		for range n {
			p.Funcs = append(p.Funcs, leaf())
		}
		if got := trim.Neat(p); got != (api.Fault{}) {
			t.Fatalf("18.5: Neat of %d leaves = %v", n, got)
		}
		for f := n - 1; f >= 0; f-- {
			p.Funcs[f] = bad
			if got := trim.Neat(p); got != loose(f, 3) {
				t.Fatalf("18.5: Neat of %v = %v, want the place 3 of function %d", p, got, f)
			}
		}
	}
}
