package trim_test

import (
	"math"
	"reflect"
	"slices"
	"strings"
	"testing"

	"plunder/api"
	"plunder/prog"
	"plunder/trim"
)

// row tells a row of Live as a text: a register that is live by its number, one that is not by a dot.
func row(live []bool) string {
	text := strings.Builder{}
	for r, is := range live {
		if is {
			text.WriteByte("0123456789abcdef"[r])
		} else {
			text.WriteByte('.')
		}
	}
	return text.String()
}

// 18.1: what each kind reads and writes. Ahead of it stands one that does nothing; behind it all registers are read, or none but r15.
func TestReadsAndWrites(t *testing.T) {
	all := "0123456789abcdef"
	for _, c := range []struct {
		what         string
		i            api.Instr
		read, unread string // live ahead of it, if all registers are read behind it, and if only r15 is
	}{
		{"IConst", konst(3, 9), "012.456789abcdef", "...............f"},
		{"IMove", move(3, 5), "012.456789abcdef", ".....5.........f"},
		{"IMove, the same", move(3, 3), all, "...3...........f"},
		{"IArith", arith(3, 5, api.Add, 7), "012.456789abcdef", ".....5.7.......f"},
		{"IArith, its own reader", arith(3, 3, api.Add, 7), all, "...3...7.......f"},
		{"IArith, its own second reader", arith(3, 7, api.Add, 3), all, "...3...7.......f"},
		{"IArith, the operation is no register", arith(1, 0, api.Ne, 0), "0.23456789abcdef", "0..............f"},
		{"IBranch", branch(3, 4), all, "...3...........f"},
		{"ISpawn of three", spawn(3, 1, 5), all, ".....567.......f"},
		{"ISpawn of three, at the end", spawn(3, 1, 13), all, ".............def"},
		{"ISpawn of eight", spawn(0, 2, 0), all, "01234567.......f"},
		{"ISpawn of eight, at the end", spawn(0, 2, 8), all, "........89abcdef"},
		{"ISpawn of none", spawn(3, 3, 5), all, "...............f"},
		{"ISpawn of none, C no register", spawn(3, 3, math.MinInt), all, "...............f"},
		{"ISpawn of none, C no register", spawn(3, 3, math.MaxInt), all, "...............f"},
		{"ISync", api.Instr{Kind: api.ISync, A: 3, B: 4, C: 5, K: 6}, all, "...............f"},
		{"ILoad", load(3, 7), "012.456789abcdef", "...............f"},
		{"IPed", ped(3), "012.456789abcdef", "...............f"},
	} {
		code := []api.Instr{spawn(7, 3, 0), wait, wait, c.i, wait, spawn(0, 2, 0), spawn(1, 2, 8), wait, give(15)}
		if got := row(rows(t, code)[2]); got != c.read {
			t.Errorf("18.1: %s: ahead of it %s are live, want %s", c.what, got, c.read)
		}
		code[5], code[6] = wait, wait
		if got := row(rows(t, code)[2]); got != c.unread {
			t.Errorf("18.1: %s: ahead of it %s are live, want %s", c.what, got, c.unread)
		}
	}
	code := []api.Instr{wait, jump(3), give(9), wait, give(3)}
	if got := rows(t, code); row(got[0]) != row(got[3]) || row(got[3]) != "...3............" || row(got[1]) != row(got[0]) || row(got[2]) != "................" {
		t.Errorf("18.1: IJump and IReturn: %v", got)
	}
}

// rows tells Live of function 0 with 16 registers and this code, beside functions of three, eight and no parameters.
func rows(t *testing.T, code []api.Instr) [][]bool {
	t.Helper()
	p := program(fn(0, 16, 8, slices.Clone(code)...), fn(3, 3, 0, give(0)), fn(8, 8, 0, give(0)), leaf())
	if fault := prog.Check(p); fault.Err != api.OK {
		t.Fatalf("%v is not valid: %v", p, fault)
	}
	return trim.Live(p, 0)
}

// 18.2: lists of places from anywhere, back through loops, and behind code that no path comes to.
func TestLivePlaces(t *testing.T) {
	for _, c := range []struct {
		what string
		code []api.Instr
		want []string
	}{
		{"no path leads there", []api.Instr{give(0), konst(1, 1), give(1)}, []string{"...", ".1.", "..."}},
		{"a jump from where no path leads", []api.Instr{konst(0, 1), give(1), jump(0)}, []string{".1.", "...", ".1."}},
		{"a loop", []api.Instr{konst(1, 1), arith(0, 0, api.Sub, 1), branch(0, 1), give(2)}, []string{"012", "012", "012", "..."}},
		{"a loop that writes first", []api.Instr{wait, konst(1, 1), branch(1, 0), give(2)}, []string{"..2", ".12", "..2", "..."}},
		{"a loop without an end", []api.Instr{konst(1, 1), jump(0)}, []string{"...", "..."}},
		{"a loop without an end that reads", []api.Instr{arith(1, 2, api.Add, 1), jump(0)}, []string{".12", ".12"}},
		{"either way", []api.Instr{branch(0, 2), give(1), give(2)}, []string{".12", "...", "..."}},
		{"the branch to itself", []api.Instr{branch(0, 0), give(1)}, []string{"01.", "..."}},
		{"through a chain of jumps back", []api.Instr{jump(3), give(2), jump(1), jump(2)}, []string{"..2", "...", "..2", "..2"}},
		{"a writer that reads it", []api.Instr{konst(0, 1), move(0, 0), give(1)}, []string{"01.", ".1.", "..."}},
	} {
		p := program(leaf(), fn(3, 3, 0, c.code...))
		var got []string
		for _, live := range trim.Live(p, 1) {
			got = append(got, row(live))
		}
		if !slices.Equal(got, c.want) {
			t.Errorf("18.2: %s: Live = %v, want %v", c.what, got, c.want)
		}
	}
}

// 18.3: rows are memory of their own, as long as the function has registers.
func TestLiveMemory(t *testing.T) {
	p := program(fn(8, 16, 0, branch(0, 2), give(3), jump(0)))
	want := trim.Live(p, 0)
	got := trim.Live(p, 0)
	for at := range got {
		if len(got[at]) != 16 {
			t.Fatalf("18.3: a row has %d bools", len(got[at]))
		}
		mine := append(got[at], true, true)
		for r := range mine {
			mine[r] = !mine[r]
			if r < 16 {
				got[at][r] = mine[r]
			}
		}
		for later := at + 1; later < len(got); later++ {
			if !slices.Equal(got[later], want[later]) {
				t.Errorf("18.3: row %d shows a change of row %d", later, at)
			}
		}
	}
	if again := trim.Live(p, 0); !reflect.DeepEqual(again, want) {
		t.Errorf("18.3: Live = %v, want %v", again, want)
	}
}
