package prog_test

import (
	"math"
	"math/rand"
	"reflect"
	"slices"
	"testing"

	"plunder/api"
	"plunder/prog"
)

// same lists rows of the one pair again and again.
func same(n int, pair ...int) [][]int {
	l := make([][]int, n)
	for at := range l {
		l[at] = pair
	}
	return l
}

// The chapter's examples of Flow.
func TestFlowExamples(t *testing.T) {
	for name, c := range map[string]struct {
		f    api.Func
		want [][]int
	}{
		"F":             {fork(), slices.Concat(same(6, 1, 1), same(2, 2, 1), same(1, 2, 2), same(4, 4, 4), same(1, 1, 1))},
		"a second sync": {forkWith(6, api.Instr{Kind: api.ISync}), slices.Concat(same(6, 1, 1), same(1, 2, 1), same(1, 4, 1), same(1, 4, 2), same(4, 4, 4), same(1, 1, 1))},
		"a branch to 8": {forkWith(2, api.Instr{Kind: api.IBranch, A: 2, B: 8}), slices.Concat(same(6, 1, 1), same(2, 2, 1), same(1, 3, 3), same(4, 5, 5), same(1, 0, 0))},
		"spawns alone":  {forkWith(5, api.Instr{Kind: api.ISpawn, B: -9, C: math.MaxInt}), slices.Concat(same(6, 1, 1), same(2, 2, 1), same(1, 2, 2), same(4, 4, 4), same(1, 1, 1))},
		"no slots":      {leaf(), [][]int{{}}},
		"all three":     {api.Func{Regs: 1, Slots: 1, Code: []api.Instr{{Kind: api.IBranch, B: 2}, {Kind: api.ISpawn}, {Kind: api.IBranch, B: 0}, {Kind: api.ISync}, {Kind: api.IJump}}}, [][]int{{7}, {7}, {7}, {7}, {5}}},
	} {
		if got := prog.Flow(c.f); !reflect.DeepEqual(got, c.want) {
			t.Errorf("5.4: Flow of %s = %v, want %v", name, got, c.want)
		}
	}
	for _, slots := range []int{0, 8} {
		f := long(512)
		f.Slots = slots
		if got := prog.Flow(f); len(got) != 512 || len(got[511]) != slots {
			t.Errorf("5.4: %d slots: %d rows", slots, len(got))
		}
	}
	if got := prog.Flow(api.Func{}); got != nil {
		t.Errorf("5.4: Flow of nothing = %v", got)
	}
}

// 5.4, 5.9: rows are memory of their own.
func TestFlowRows(t *testing.T) {
	want := prog.Flow(fork())
	got := prog.Flow(fork())
	for at := range got {
		for slot := range got[at] {
			got[at][slot] = -1
		}
		got[at] = append(got[at], -1)
		for later := at + 1; later < len(got); later++ {
			if !slices.Equal(got[later], want[later]) {
				t.Fatalf("5.4: row %d shows what was written in row %d", later, at)
			}
		}
	}
	if again := prog.Flow(fork()); !reflect.DeepEqual(again, want) {
		t.Errorf("5.9: Flow answers %v behind a change of its answer", again)
	}
}

// holds tells whether a path is one of f's, ends at a place and has a slot in a state there.
func holds(f api.Func, path []int, at, slot, state int) bool {
	if len(path) == 0 || len(path) > 3*len(f.Code) || path[0] != 0 || path[len(path)-1] != at {
		return false
	}
	s := states{1, 1, 1, 1, 1, 1, 1, 1}
	for k := 1; k < len(path); k++ {
		i := f.Code[path[k-1]]
		if !slices.Contains(nexts(path[k-1], i), path[k]) {
			return false
		}
		s = behind(i, s)
	}
	return s[slot] == state
}

// trails asks for all trails of a sound function, and for some that may not be asked for.
func trails(t *testing.T, f api.Func) {
	t.Helper()
	rows := prog.Flow(f)
	for at := -1; at <= len(f.Code); at++ {
		for slot := -1; slot <= f.Slots; slot++ {
			for state := -1; state <= 8; state++ {
				path, err := prog.Trail(f, at, slot, state)
				inside := at >= 0 && at < len(f.Code) && slot >= 0 && slot < f.Slots
				switch {
				case !inside || state != 1 && state != 2 && state != 4:
					if err != api.ErrArg || path != nil {
						t.Fatalf("5.5: Trail(%v, %d, %d, %d) = %v, %d, want ErrArg", f, at, slot, state, path, err)
					}
				case rows[at][slot]&state == 0:
					if err != api.ErrTrail || path != nil {
						t.Fatalf("5.5: Trail(%v, %d, %d, %d) = %v, %d, want ErrTrail", f, at, slot, state, path, err)
					}
				case err != api.OK || !holds(f, path, at, slot, state):
					t.Fatalf("5.5: Trail(%v, %d, %d, %d) = %v, %d", f, at, slot, state, path, err)
				}
			}
		}
	}
}

// 5.4, 5.5: on many small functions Flow is what a plain walk says, and Trail has a path just where Flow says so.
func TestFlowModel(t *testing.T) {
	r := rand.New(rand.NewSource(6))
	for round := range 4000 {
		f := drawFunc(r, 3, false)
		before := copied(program(f))
		if got, want := prog.Flow(f), rows(f); !reflect.DeepEqual(got, want) {
			t.Fatalf("5.4: Flow(%v) = %v, want %v", f, got, want)
		}
		if round%4 == 0 {
			trails(t, f)
		}
		if !reflect.DeepEqual(program(f), before) {
			t.Fatalf("5.9: a function was changed: %v", f)
		}
	}
}

// The chapter's examples of Trail, and functions that are not sound.
func TestTrailExamples(t *testing.T) {
	path, err := prog.Trail(fork(), 9, 1, 4)
	if err != api.OK || !slices.Equal(path, []int{0, 1, 2, 3, 4, 5, 6, 7, 8, 9}) {
		t.Errorf("5.5: Trail(F, 9, 1, 4) = %v, %d", path, err)
	}
	if path, err := prog.Trail(fork(), 0, 0, 1); err != api.OK || len(path) != 1 || path[0] != 0 {
		t.Errorf("5.5: Trail(F, 0, 0, 1) = %v, %d", path, err)
	}
	trails(t, fork())
	trails(t, leaf())
	trails(t, forkWith(2, api.Instr{Kind: api.IBranch, A: 2, B: 8}))
	trails(t, forkWith(5, api.Instr{Kind: api.ISpawn, B: 99, C: -4}))
	far := []int{math.MinInt, math.MaxInt, 1 << 32}
	for _, x := range far {
		for _, c := range [][3]int{{x, 0, 1}, {0, x, 1}, {0, 0, x}} {
			if path, err := prog.Trail(fork(), c[0], c[1], c[2]); path != nil || err != api.ErrArg {
				t.Errorf("5.5: Trail(F, %v) = %v, %d", c, path, err)
			}
		}
	}
	short := fork()
	short.Code = short.Code[:13]
	for _, f := range []api.Func{{}, short, forkWith(13, api.Instr{Kind: api.ISync}), forkWith(5, api.Instr{Kind: api.ISpawn, A: 2})} {
		if path, err := prog.Trail(f, 0, 0, 1); path != nil || err != api.ErrArg {
			t.Errorf("5.5: Trail of what is not sound = %v, %d", path, err)
		}
	}
}

// 5.5: paths that have to go round: a chain of places through which one comes empty, pending and full.
func TestTrailRound(t *testing.T) {
	for _, n := range []int{5, 6, 50, 512} {
		f := api.Func{Regs: 1, Slots: 2, Code: make([]api.Instr, n)}
		for at := range f.Code {
			f.Code[at] = api.Instr{Kind: api.IConst}
		}
		f.Code[n-4] = api.Instr{Kind: api.IBranch, B: n - 2}
		f.Code[n-3] = api.Instr{Kind: api.ISync}
		f.Code[n-2] = api.Instr{Kind: api.ISpawn, A: 1}
		f.Code[n-1] = api.Instr{Kind: api.IJump, A: 0}
		trails(t, f)
		path, err := prog.Trail(f, n-4, 1, 2)
		if err != api.OK || len(path) != 2*n-4 {
			t.Errorf("5.5: once round: %d places of %d, %d", len(path), n, err)
		}
	}
	round := api.Func{Regs: 1, Slots: 1, Code: []api.Instr{{Kind: api.ISpawn}, {Kind: api.ISync}, {Kind: api.IBranch}, {Kind: api.IReturn}}}
	path, err := prog.Trail(round, 0, 0, 4)
	if err != api.OK || !holds(round, path, 0, 0, 4) {
		t.Errorf("5.5: round the loop: %v, %d", path, err)
	}
}

// 5.5, 5.9: a path is memory of its own.
func TestTrailMemory(t *testing.T) {
	path, _ := prog.Trail(fork(), 12, 0, 4)
	want := slices.Clone(path)
	for k := range path {
		path[k] = -1
	}
	if again, err := prog.Trail(fork(), 12, 0, 4); err != api.OK || !slices.Equal(again, want) {
		t.Errorf("5.9: Trail answers %v behind a change of its answer", again)
	}
}
