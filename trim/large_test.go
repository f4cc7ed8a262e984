package trim_test

import (
	"math"
	"slices"
	"sync"
	"testing"

	"plunder/api"
	"plunder/samples"
	"plunder/serial"
	"plunder/trim"
)

// longCodes are functions of as many instructions as there may be, with 16 registers, that all come to r0.
func longCodes() map[string][]api.Instr {
	const last = api.MaxCode - 1
	codes := map[string][]api.Instr{}
	add := func(name string, more ...api.Instr) { codes[name] = append(codes[name], more...) }
	for k := range last {
		add("dead at once", konst(1, 7))
		add("each read by the next", move(1+(k+1)%15, 1+k%15))
		add("jumps to the next", jump(k+1))
		add("branches to the end", branch(k%16, last))
		add("syncs", wait)
		add("nothing", move(k%16, k%16))
	}
	for name := range codes {
		add(name, give(0))
	}
	add("jumps back", jump(last), give(0))
	for k := range last - 1 {
		add("jumps back", jump(k+1))
	}
	add("never come to", give(0))
	for range last - 1 {
		add("never come to", wait)
	}
	add("never come to", jump(0))
	for k := range last / 2 {
		add("branches over what they read", branch(1+k%15, 2*k+2), konst(1+(k+1)%15, 1))
	}
	add("branches over what they read", konst(1, 2), give(0))
	add("back and forth", jump(last-1), give(0))
	for k := range last / 2 {
		add("back and forth", move(1+k%15, 1+(k+1)%15), jump(max(1, 2*k)))
	}
	return codes
}

// 18.6 to 18.10: from the longest functions all goes but the return.
func TestLong(t *testing.T) {
	t.Parallel()
	for name, code := range longCodes() {
		if len(code) != api.MaxCode {
			t.Fatalf("%s: %d instructions", name, len(code))
		}
		p := program(fn(1, 16, 8, code...), fn(8, 16, 0, code...))
		q, err := trim.Trim(p)
		if want := program(fn(1, 16, 8, give(0)), fn(8, 16, 0, give(0))); err != api.OK || !sames(q, want) {
			t.Errorf("18.6: %s: Trim = %v, %d", name, q, err)
		}
		means(t, p, q, []int64{5}, 1000)
	}
}

// 18.9: the longest loops in which nothing is done stay loops.
func TestLongLoops(t *testing.T) {
	t.Parallel()
	round := fn(0, 2, 0)
	for k := range api.MaxCode {
		round.Code = append(round.Code, jump((k+211)%api.MaxCode))
	}
	idle := fn(0, 2, 0)
	for range api.MaxCode - 1 {
		idle.Code = append(idle.Code, []api.Instr{wait, konst(1, 1), move(0, 0)}[len(idle.Code)%3])
	}
	idle.Code = append(idle.Code, jump(0))
	turns := fn(1, 2, 0, konst(1, 1), arith(0, 0, api.Sub, 1))
	for len(turns.Code) < api.MaxCode-2 {
		turns.Code = append(turns.Code, move(1, 1))
	}
	turns.Code = append(turns.Code, branch(0, 1), give(0))
	for _, c := range []struct {
		f    api.Func
		want []api.Instr
	}{
		{round, []api.Instr{jump(0)}},
		{idle, []api.Instr{jump(0)}},
		{turns, []api.Instr{konst(1, 1), arith(0, 0, api.Sub, 1), branch(0, 1), give(0)}},
	} {
		p, want := program(c.f), program(c.f)
		want.Funcs[0].Code = c.want
		q, err := trim.Trim(p)
		if err != api.OK || !sames(q, want) {
			t.Fatalf("18.6: Trim(%v) = %v, %d, want %v", p, q, err, want)
		}
	}
	q, _ := trim.Trim(program(turns))
	means(t, program(turns), q, []int64{3000}, 4096)
	means(t, program(turns), q, []int64{8000}, api.MaxFuel)
}

// odd is an instruction with numbers in all fields that its kind does not look at.
func odd(i api.Instr) api.Instr {
	switch i.Kind {
	case api.IJump, api.IReturn, api.IPed:
		i.B, i.C, i.K = math.MinInt, -5, 77
	case api.IConst:
		i.B, i.C = -1, math.MaxInt
	case api.IBranch, api.ILoad:
		i.C, i.K = 1<<40, -1
	case api.ISync:
		i = api.Instr{Kind: api.ISync, A: -1, B: -2, C: -3, K: -4}
	}
	return i
}

// 18.10: a neat program stays as it is, with all fields that no kind looks at; and nothing but places of jumps changes where something is taken out.
func TestNeatStays(t *testing.T) {
	code := []api.Instr{branch(0, 7), spawn(0, 1, 1), wait, load(0, 0), ped(1), arith(0, 0, api.Add, 1), give(0), konst(1, 2), branch(1, 1), jump(7)}
	for at := range code {
		code[at] = odd(code[at])
	}
	p := program(fn(2, 16, 8, code...), fn(1, 7, 5, give(0)), fn(3, 3, 3, jump(0)))
	if got := trim.Neat(p); got != (api.Fault{}) {
		t.Fatalf("18.5: Neat = %v", got)
	}
	if q := trimmed(t, p); !sames(q, p) {
		t.Errorf("18.10: Trim(%v) = %v", p, q)
	}
	for at := range code {
		more := samples.Copied(p)
		more.Funcs[0] = into(more.Funcs[0], at, move(3, 3), true)
		if q := trimmed(t, more); !sames(q, p) {
			t.Errorf("18.6: Trim(%v) = %v, want %v", more, q, p)
		}
	}
}

// 18.11: what is answered shares no memory with the program, nor one list of it with another, be the program neat or not.
func TestMemory(t *testing.T) {
	rough := fn(1, 2, 0, wait, branch(0, 2), give(1), give(0))
	for _, p := range []api.Program{samples.Fib(), samples.Pair(), program(rough, rough, rough), program(leaf(), rough, leaf()), program(fn(0, 1, 0, give(0), give(0)), fn(0, 1, 0, give(0), jump(1)))} {
		c := samples.Copied(p)
		q, _ := trim.Trim(c)
		want, _ := trim.Trim(c)
		for f := range q.Funcs {
			code := append(q.Funcs[f].Code, konst(0, 1), konst(0, 1))
			clear(code)
			clear(q.Funcs[f].Code)
			for later := f + 1; later < len(q.Funcs); later++ {
				if !slices.Equal(q.Funcs[later].Code, want.Funcs[later].Code) {
					t.Errorf("18.11: function %d shows a change of function %d", later, f)
				}
			}
		}
		clear(append(q.Funcs, api.Func{}, api.Func{}))
		clear(q.Funcs)
		if !samples.Untouched(c, p) {
			t.Errorf("18.11: %v shows a change of what Trim made of it: %v", p, c)
		}
		again, _ := trim.Trim(p)
		if !sames(again, want) {
			t.Errorf("R2: Trim = %v, want %v", again, want)
		}
		clear(c.Funcs[0].Code)
		if !sames(want, again) {
			t.Errorf("18.11: what Trim made shows a change of the program")
		}
	}
}

// R2: calls side by side answer the same.
func TestSideBySide(t *testing.T) {
	p := program(samples.Fib().Funcs[0], fn(2, 16, 8, longCodes()["back and forth"]...))
	want, _ := trim.Trim(p)
	var all sync.WaitGroup
	for range 8 {
		all.Go(func() {
			if q, err := trim.Trim(p); err != api.OK || !sames(q, want) || trim.Neat(p) != loose(1, 2) || len(trim.Live(p, 0)) != 14 {
				t.Errorf("R2: Trim = %v, %d", q, err)
			}
		})
	}
	all.Wait()
}

// 18.8: a trimmed program needs no more fuel, and comes to the same depth.
func TestDeep(t *testing.T) {
	p := samples.Sum()
	p.Funcs[0].Code = slices.Insert(slices.Clone(p.Funcs[0].Code), 5, wait)
	p.Funcs[0].Code = slices.Insert(p.Funcs[0].Code, 7, wait)
	q := trimmed(t, p)
	if !sames(q, samples.Sum()) {
		t.Fatalf("18.6: Trim(%v) = %v", p, q)
	}
	for _, n := range []int64{0, 1, 7, 300, api.MaxDepth - 1} {
		means(t, p, q, []int64{n}, api.MaxFuel)
	}
	if _, err := serial.Eval(q, []int64{api.MaxDepth}, api.MaxFuel); err != api.ErrDeep {
		t.Errorf("6.5: Eval = %d", err)
	}
}
