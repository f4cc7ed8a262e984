package trim_test

import (
	"math"
	"math/rand"
	"slices"
	"testing"

	"plunder/api"
	"plunder/gen"
	"plunder/machine"
	"plunder/prog"
	"plunder/samples"
	"plunder/script"
	"plunder/serial"
	"plunder/sources"
	"plunder/trim"
)

// wild draws an instruction of whatever kind for a program of two functions, at a place of so many; jumps are drawn often.
func wild(r *rand.Rand, places int) api.Instr {
	reg, place := r.Intn(3), r.Intn(places)
	switch r.Intn(14) {
	case 0:
		return konst(reg, int64(r.Intn(3)))
	case 1:
		return move(reg, r.Intn(3))
	case 2:
		return arith(reg, r.Intn(3), []int{api.Add, api.Sub, api.Xor}[r.Intn(3)], r.Intn(3))
	case 3, 4, 5:
		return jump(place)
	case 6, 7, 8:
		return branch(reg, place)
	case 9:
		if r.Intn(2) == 0 {
			return spawn(r.Intn(2), 1, r.Intn(2))
		}
		return spawn(r.Intn(2), 2, []int{math.MinInt, -1, 16, math.MaxInt}[r.Intn(4)])
	case 10:
		return wait
	case 11:
		return load(reg, r.Intn(2))
	case 12:
		return ped(reg)
	}
	return give(reg)
}

// wildProgram draws a valid program with an entry of any instructions.
func wildProgram(r *rand.Rand) api.Program {
	two := fn(2, 2, 0, arith(0, 0, api.Sub, 1), give(0))
	for {
		code := make([]api.Instr, 1+r.Intn(14))
		for at := range code {
			code[at] = wild(r, len(code))
		}
		if last := len(code) - 1; code[last].Kind != api.IJump {
			code[last] = give(r.Intn(3))
		}
		p := program(fn(r.Intn(4), 3, 2, code...), two, leaf())
		if prog.Check(p).Err == api.OK {
			return p
		}
	}
}

// tally counts what the drawn programs are like, so that none of it is missed by chance.
type tally struct {
	loose [7]int // by kind
	ends  map[api.Errno]int
	neat  int
}

func (c *tally) add(p api.Program) {
	for f := range p.Funcs {
		for _, list := range kinds(p, f) {
			for _, kind := range list {
				c.loose[kind]++
			}
		}
	}
	if neat(p).Err == api.OK {
		c.neat++
	}
}

func (c *tally) atLeast(t *testing.T, kind, neat, ended, endless int) {
	t.Helper()
	if slices.Min(c.loose[1:]) < kind || c.neat < neat || c.ends[api.OK] < ended || c.ends[api.ErrFuel] < endless {
		t.Errorf("the drawn programs are too few of some kind: %+v", *c)
	}
}

// 18.2 to 18.11, P13: code in which everything stands everywhere.
func TestWild(t *testing.T) {
	t.Parallel()
	r := rand.New(rand.NewSource(18))
	c := tally{ends: map[api.Errno]int{}}
	for range 20000 {
		p := wildProgram(r)
		c.add(p)
		q := trimmed(t, p)
		for range 4 {
			args := make([]int64, p.Funcs[0].Params)
			for k := range args {
				args[k] = int64(r.Intn(3) * (1 + r.Intn(2)*r.Intn(1<<40)))
			}
			c.ends[means(t, p, q, args, []int{r.Intn(30), 300}[r.Intn(2)])]++
		}
	}
	c.atLeast(t, 500, 20, 10000, 10000)
}

// into puts an instruction in at a place of a function; jumps go to what they went to, those to this place may go to the new one.
func into(f api.Func, at int, i api.Instr, too bool) api.Func {
	code := slices.Insert(slices.Clone(f.Code), at, i)
	for k := range code {
		to := &code[k].A
		switch {
		case k == at || code[k].Kind != api.IJump && code[k].Kind != api.IBranch:
			continue
		case code[k].Kind == api.IBranch:
			to = &code[k].B
		}
		if *to > at || *to == at && !too {
			*to++
		}
	}
	f.Code = code
	return f
}

// padded puts instructions into a function that are loose more often than not.
func padded(r *rand.Rand, f api.Func) api.Func {
	at := r.Intn(len(f.Code))
	reg := r.Intn(f.Regs)
	switch r.Intn(7) {
	case 0:
		return into(f, at, move(reg, reg), r.Intn(2) == 0)
	case 1:
		return into(f, at, wait, true)
	case 2:
		return into(f, at, jump(at+1), true)
	case 3:
		return into(f, at, branch(reg, at+1), true)
	case 4: // to a jump that goes back behind this one
		g := into(f, at, jump(len(f.Code)+1), true)
		g.Code = append(g.Code, jump(at+1))
		return g
	case 5: // what no path comes to
		return into(into(f, at, konst(reg, 4), false), at, jump(at+2), true)
	}
	if f.Regs == api.MaxRegs {
		return f
	}
	f.Regs++
	return into(f, at, []api.Instr{konst(f.Regs-1, 7), ped(f.Regs - 1), move(f.Regs-1, reg), arith(f.Regs-1, reg, r.Intn(api.NumOps), f.Regs-1)}[r.Intn(4)], true)
}

// 18.2 to 18.11, P13: programs that are run as they are, and with what is not needed put in.
func TestPadded(t *testing.T) {
	t.Parallel()
	r := rand.New(rand.NewSource(181))
	c := tally{ends: map[api.Errno]int{}}
	for range 3000 {
		p := samples.Draw(r.Intn, true)
		for f := range p.Funcs {
			for range r.Intn(2) * r.Intn(9) {
				p.Funcs[f] = padded(r, p.Funcs[f])
			}
		}
		c.add(p)
		q := trimmed(t, p)
		for range 3 {
			c.ends[means(t, p, q, samples.Args(r.Intn, p), []int{r.Intn(200), 3000}[r.Intn(2)])]++
		}
	}
	c.atLeast(t, 500, 20, 2000, 500)
}

// P13: what the compiler leaves behind goes, and what a source means stays.
func TestCompiled(t *testing.T) {
	t.Parallel()
	r := rand.New(rand.NewSource(182))
	ends := map[api.Errno]int{}
	before, behind := 0, 0
	for range 600 {
		s := sources.Draw(r.Intn)
		p, fault := gen.Compile(s)
		if fault.Err != api.OK {
			t.Fatalf("a drawn source is refused: %v", fault)
		}
		q := trimmed(t, p)
		for f := range p.Funcs {
			before += len(p.Funcs[f].Code)
			behind += len(q.Funcs[f].Code)
		}
		for range 3 {
			ends[means(t, p, q, sources.Args(r.Intn, s), 3000)]++
		}
	}
	if ends[api.OK] < 500 || ends[api.ErrFuel] < 50 || behind >= before {
		t.Errorf("the compiled sources end so: %v; of %d instructions are left %d", ends, before, behind)
	}
}

// P13, P1: by workers, too, a trimmed program comes to what the program comes to.
func TestRuns(t *testing.T) {
	t.Parallel()
	r := rand.New(rand.NewSource(183))
	done := 0
	for range 800 {
		j := samples.Job(r.Intn, 50)
		v, err := serial.Eval(j.P, j.Args, 500)
		if err != api.OK {
			continue
		}
		q := trimmed(t, j.P)
		s, err := script.Noise(int64(r.Uint64()), j.Workers, 4*j.Workers, 3000*j.Workers)
		if err != api.OK {
			t.Fatalf("no script: %d", err)
		}
		o := machine.Run(q, j.Args, j.Workers, api.Limits{Frames: v.Tasks, First: 1, Most: v.Tasks}, s)
		if o.Kind == api.OutMalformed || o.Kind == api.OutFull || o.Kind == api.OutDone && o.Value != v.V {
			t.Fatalf("P13: %v with %v: %+v, want %+v", q, j.Args, o, v)
		}
		if o.Kind == api.OutDone {
			done++
		}
	}
	if done < 100 {
		t.Errorf("only %d runs are done", done)
	}
}

// R1, 18.3, 18.5, 18.6: programs that were spoilt are refused just if prog.Check refuses them, and held against all laws else.
func TestSpoilt(t *testing.T) {
	t.Parallel()
	r := rand.New(rand.NewSource(184))
	numbers := []int{0, 1, 2, 3, -1, 9, 16, 1 << 40, math.MinInt, math.MaxInt}
	number := func() int { return numbers[r.Intn(len(numbers))] }
	refused, taken := 0, 0
	for range 10000 {
		p := samples.Draw(r.Intn, true)
		for range 1 + r.Intn(3) {
			f := &p.Funcs[r.Intn(len(p.Funcs))]
			i := &f.Code[r.Intn(len(f.Code))]
			fields := []*int{&f.Params, &f.Regs, &f.Slots, &i.Kind, &i.A, &i.B, &i.C}
			*fields[r.Intn(len(fields))] = number()
		}
		if prog.Check(p).Err == api.OK {
			taken++
			trimmed(t, p)
			continue
		}
		refused++
		q, err := trim.Trim(p)
		if err != api.ErrProgram || q.Funcs != nil || trim.Neat(p) != (api.Fault{Err: api.ErrProgram}) || trim.Live(p, r.Intn(3)) != nil {
			t.Fatalf("18.6: Trim(%v) = %v, %d", p, q, err)
		}
	}
	if refused < 1000 || taken < 1000 {
		t.Errorf("of the programs %d are refused, %d taken", refused, taken)
	}
}
