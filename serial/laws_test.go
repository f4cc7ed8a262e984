package serial_test

import (
	"fmt"
	"math/rand"
	"slices"
	gosync "sync"
	"testing"

	"plunder/api"
	"plunder/prog"
	"plunder/samples"
	"plunder/serial"
)

// 6.1 to 6.7: many drawn programs come to what the model says, with fuel that does and that does not; 6.12: they are not changed.
func TestModel(t *testing.T) {
	r := rand.New(rand.NewSource(6))
	seen := map[string]int{}
	for range 8000 {
		p := drawn(t, r, true)
		args := samples.Args(r.Intn, p)
		fuel := []int{r.Intn(20), r.Intn(200), 500, 500, 2000, 2000, 2000, 40000}[r.Intn(8)]
		want := modelRun(p, args, fuel)
		same, sameArgs := samples.Copied(p), append(slices.Clone(args), 77)
		v, err := serial.Eval(same, sameArgs[:len(args)], fuel)
		if v != want.value || err != want.err {
			t.Fatalf("6.5: Eval(%v, %v, %d) = %+v, %d, want %+v, %d", p, args, fuel, v, err, want.value, want.err)
		}
		l, err := serial.Tree(same, sameArgs[:len(args)], fuel)
		if !slices.Equal(l, want.nodes) || err != want.err {
			t.Fatalf("6.7: Tree(%v, %v, %d) = %+v, %d, want %+v, %d", p, args, fuel, l, err, want.nodes, want.err)
		}
		if !samples.Untouched(same, p) || !slices.Equal(sameArgs, append(slices.Clone(args), 77)) {
			t.Fatalf("6.12: %v, %v were changed to %v, %v", p, args, same, sameArgs)
		}
		seen[fmt.Sprint("error ", err)]++
		if v.Span < v.Work {
			seen["parallel"]++
		}
		if v.Tasks > 10 && v.Depth > 3 {
			seen["large"]++
		}
	}
	for what, least := range map[string]int{"error 0": 2000, "error 62": 1000, "error 63": 100, "parallel": 500, "large": 100} {
		if seen[what] < least {
			t.Errorf("of the drawn runs too few are %s: %d", what, seen[what])
		}
	}
}

// drawn draws a program, and asks whether it is valid.
func drawn(t *testing.T, r *rand.Rand, peds bool) api.Program {
	t.Helper()
	p := samples.Draw(r.Intn, peds)
	if fault := prog.Check(p); fault.Err != api.OK {
		t.Fatalf("a drawn program is not valid: %v: %v", p, fault)
	}
	return p
}

// 6.8: from Work on fuel changes nothing, below it there is none that does.
func TestMoreFuel(t *testing.T) {
	r := rand.New(rand.NewSource(8))
	ended := 0
	for range 1500 {
		p := drawn(t, r, true)
		args := samples.Args(r.Intn, p)
		want, err := serial.Eval(p, args, 3000)
		if err != api.OK {
			continue
		}
		ended++
		for _, fuel := range []int{want.Work, want.Work + 1, want.Work + r.Intn(9000), api.MaxFuel - 1, api.MaxFuel} {
			if v, err := serial.Eval(p, args, fuel); err != api.OK || v != want {
				t.Fatalf("6.8: Eval(%v, %v, %d) = %+v, %d, want %+v", p, args, fuel, v, err, want)
			}
		}
		for _, fuel := range []int{0, r.Intn(want.Work), want.Work - 1} {
			if v, err := serial.Eval(p, args, fuel); err != api.ErrFuel || v != (api.Value{}) {
				t.Fatalf("6.8: Eval(%v, %v, %d) = %+v, %d, want ErrFuel below %d", p, args, fuel, v, err, want.Work)
			}
		}
	}
	if ended < 300 {
		t.Errorf("only %d of the drawn runs end", ended)
	}
}

// 6.9, 6.10: how the counts of a run and of its tree hang together.
func TestCounts(t *testing.T) {
	r := rand.New(rand.NewSource(9))
	alone, several := 0, 0
	for range 4000 {
		p := drawn(t, r, true)
		args := samples.Args(r.Intn, p)
		v, err := serial.Eval(p, args, 5000)
		l, treeErr := serial.Tree(p, args, 5000)
		if err != treeErr || (err != api.OK) != (len(l) == 0) {
			t.Fatalf("6.7: Eval says %d, Tree %d with %d nodes", err, treeErr, len(l))
		}
		if err != api.OK {
			continue
		}
		if v.Depth < 1 || v.Depth > v.Tasks || v.Tasks > v.Work || v.Span < 1 || v.Span > v.Work || v.Span < v.Depth {
			t.Fatalf("6.9: %v, %v: %+v", p, args, v)
		}
		if v.Tasks == 1 {
			alone++
			if v.Span != v.Work {
				t.Fatalf("6.9: %v, %v: %+v", p, args, v)
			}
		} else {
			several++
		}
		checkTree(t, l, v)
	}
	if alone < 300 || several < 300 {
		t.Errorf("of the drawn runs that end %d have one task, %d several", alone, several)
	}
}

// checkTree holds a tree against its run's value.
func checkTree(t *testing.T, l []api.Node, v api.Value) {
	t.Helper()
	if len(l) != v.Tasks || l[0].Parent != -1 || l[0].V != v.V || l[0].Ped != 1 || l[0].Index != 0 || l[0].Func != 0 {
		t.Fatalf("6.10: %+v of %+v", l, v)
	}
	work, deepest := 0, 0
	depth, children := make([]int, len(l)), make([]int, len(l))
	for number, node := range l {
		work += node.Work
		depth[number] = 1
		if number > 0 {
			if node.Parent < 0 || node.Parent >= number || node.Index != children[node.Parent] || node.Ped != serial.Ped(l[node.Parent].Ped, node.Index) {
				t.Fatalf("6.10: node %d of %+v", number, l)
			}
			children[node.Parent]++
			depth[number] = depth[node.Parent] + 1
		}
		deepest = max(deepest, depth[number])
	}
	if work != v.Work || deepest != v.Depth {
		t.Fatalf("6.10: the work %d, the depth %d of %+v", work, deepest, v)
	}
}

// asEntry is a program in which a function changes its number with the entry.
func asEntry(p api.Program, f int) api.Program {
	other := func(g int) int {
		switch g {
		case 0:
			return f
		case f:
			return 0
		}
		return g
	}
	q := api.Program{Funcs: make([]api.Func, len(p.Funcs))}
	for g := range p.Funcs {
		q.Funcs[other(g)] = p.Funcs[g]
		code := slices.Clone(p.Funcs[g].Code)
		for at := range code {
			if code[at].Kind == api.ISpawn {
				code[at].B = other(code[at].B)
			}
		}
		q.Funcs[other(g)].Code = code
	}
	return q
}

// 6.11: without IPed, each task comes to what Eval answers with its function as the entry.
func TestTaskAsEntry(t *testing.T) {
	r := rand.New(rand.NewSource(11))
	asked := 0
	for range 3000 {
		p := drawn(t, r, false)
		args := samples.Args(r.Intn, p)
		l, err := serial.Tree(p, args, 2000)
		if err != api.OK {
			continue
		}
		h := modelRun(p, args, 2000)
		for _, number := range []int{0, len(l) - 1, r.Intn(len(l))} {
			v, err := serial.Eval(asEntry(p, l[number].Func), h.args[number], 2000)
			if err != api.OK || v.V != l[number].V {
				t.Fatalf("6.11: task %d of %v, %v comes to %d, as the entry to %+v, %d", number, p, args, l[number].V, v, err)
			}
			if number > 0 {
				asked++
			}
		}
	}
	if asked < 500 {
		t.Errorf("only %d tasks were asked", asked)
	}
}

// 6.11: tasks with the same function, arguments and pedigree come to the same value, whatever run they are in.
func TestTaskByPedigree(t *testing.T) {
	r := rand.New(rand.NewSource(12))
	again, differ := 0, 0
	for range 1500 {
		p := drawn(t, r, true)
		values, first := map[string]int64{}, map[string]int64{}
		for range 6 {
			args := samples.Args(r.Intn, p)
			h := modelRun(p, args, 1000)
			l, _ := serial.Tree(p, args, 1000)
			for number := 1; number < len(l); number++ {
				node := l[number]
				call := fmt.Sprint(node.Func, h.args[number])
				key := fmt.Sprint(call, node.Ped)
				v, met := values[key]
				if met && v != node.V {
					t.Fatalf("6.11: %v: the task %s comes to %d and to %d", p, key, v, node.V)
				}
				if met {
					again++
				}
				values[key] = node.V
				if v, met := first[call]; met && v != node.V {
					differ++
				}
				first[call] = node.V
			}
		}
	}
	if again < 1000 || differ < 100 {
		t.Errorf("%d tasks were met again, %d differ by their pedigrees alone", again, differ)
	}
}

// 6.12: the same arguments, the same answers, also from calls side by side.
func TestSideBySide(t *testing.T) {
	p := samples.Fib()
	want, _ := serial.Eval(p, []int64{12}, api.MaxFuel)
	nodes, _ := serial.Tree(p, []int64{12}, api.MaxFuel)
	var all gosync.WaitGroup
	for range 8 {
		all.Go(func() {
			for range 5 {
				serial.Eval(samples.Sum(), []int64{-1}, api.MaxFuel)
				v, err := serial.Eval(p, []int64{12}, api.MaxFuel)
				l, treeErr := serial.Tree(p, []int64{12}, api.MaxFuel)
				if v != want || err != api.OK || treeErr != api.OK || !slices.Equal(l, nodes) {
					t.Errorf("6.12: %+v, %d, %d nodes, %d", v, err, len(l), treeErr)
				}
			}
		})
	}
	all.Wait()
	if want.V != 144 || want.Tasks != 465 || want.Depth != 12 {
		t.Errorf("6.5: fib(12): %+v", want)
	}
}

// R1, 6.5: whatever is handed in, no call panics; what prog.Check refuses is refused.
func TestWild(t *testing.T) {
	r := rand.New(rand.NewSource(1))
	numbers := []int{0, 1, 2, 3, -1, 9, 16, 1 << 40, -1 << 63, 1<<63 - 1}
	number := func() int { return numbers[r.Intn(len(numbers))] }
	taken := 0
	for range 20000 {
		p := drawn(t, r, true)
		for range r.Intn(3) {
			f := &p.Funcs[r.Intn(len(p.Funcs))]
			i := &f.Code[r.Intn(len(f.Code))]
			switch r.Intn(8) {
			case 0:
				f.Params = number()
			case 1:
				f.Regs = number()
			case 2:
				f.Slots = number()
			case 3:
				i.Kind = r.Intn(12) - 1
			case 4:
				i.A = number()
			case 5:
				i.B = number()
			case 6:
				i.C = number()
			case 7:
				i.K = int64(number())
			}
		}
		fault := prog.Check(p)
		args := make([]int64, max(0, min(8, p.Funcs[0].Params)))
		v, err := serial.Eval(p, args, 500)
		l, treeErr := serial.Tree(p, args, 500)
		if err != treeErr || (err == api.ErrProgram) != (fault.Err != api.OK) || err != api.OK && (v != api.Value{} || len(l) > 0) {
			t.Fatalf("6.5: %v: Check %v, Eval %+v, %d, Tree %d nodes, %d", p, fault, v, err, len(l), treeErr)
		}
		if err == api.OK {
			taken++
		}
	}
	if taken < 1000 {
		t.Errorf("only %d programs ran", taken)
	}
}
