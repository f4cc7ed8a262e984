package spy

import (
	"slices"

	"plunder/api"
	"plunder/cells"
)

// Reporter is what is told of faults: a *testing.T.
type Reporter interface {
	Errorf(format string, args ...any)
}

// Machine is a kind of step machines.
type Machine[O comparable] struct {
	Step   func(cells.Mem, O) O
	Answer func(O) (int, int64)
}

// Way is one way that a machine can go, alone, to its end: what the cells hold, the machine, what it asks for step by step, what it answers.
type Way[O comparable] struct {
	Name string
	Held []int64
	Op   O
	Asks []api.Act
	Code int
	V    int64
}

// Case is a way, written in one line.
func Case[O comparable](name string, held []int64, o O, asks []api.Act, code int, v int64) Way[O] {
	return Way[O]{Name: name, Held: held, Op: o, Asks: asks, Code: code, V: v}
}

// Check holds all rules of step machines against the ways.
func (k Machine[O]) Check(t Reporter, ways []Way[O]) {
	for _, w := range ways {
		k.accesses(t, w)
		for n := range w.Asks {
			k.refused(t, w, n)
			k.noMemory(t, w, n)
			k.copied(t, w, n)
		}
	}
}

// Through steps a machine to its end, if that comes in time.
func (k Machine[O]) Through(m cells.Mem, o O) (int, int64) {
	for range 10000 {
		if code, v := k.Answer(o); code != api.Running {
			return code, v
		}
		o = k.Step(m, o)
	}
	return k.Answer(o)
}

// behind is the machine behind so many steps.
func (k Machine[O]) behind(m cells.Mem, o O, steps int) O {
	for range steps {
		o = k.Step(m, o)
	}
	return o
}

// Broken holds against machines that they have ended as broken ones.
func (k Machine[O]) Broken(t Reporter, ops ...O) {
	for i, o := range ops {
		s := New(Laid(make([]int64, 100)...))
		k.over(t, "broken from the start", s, o, api.Broken, 0)
		if len(s.Asked) != 0 {
			t.Errorf("the machine %d, which is broken, asked for %v", i, s.Asked)
		}
	}
}

// Running holds against machines that they have not ended.
func (k Machine[O]) Running(t Reporter, ops ...O) {
	for i, o := range ops {
		if code, v := k.Answer(o); code != api.Running || v != 0 {
			t.Errorf("the machine %d, which goes on, answers %d, %d", i, code, v)
		}
	}
}

// accesses: one access a step, in their order; the answer behind the last (R7).
func (k Machine[O]) accesses(t Reporter, w Way[O]) {
	s := New(Laid(w.Held...))
	o := w.Op
	for i, want := range w.Asks {
		if code, v := k.Answer(o); code != api.Running || v != 0 {
			t.Errorf("%s: ahead of the access %d it answers %d, %d", w.Name, i, code, v)
		}
		o = k.Step(s, o)
		if len(s.Asked) != i+1 || s.Asked[i] != want {
			t.Errorf("%s: behind the step %d it has asked for %v, want %v", w.Name, i, s.Asked, w.Asks)
			return
		}
	}
	k.over(t, w.Name, s, o, w.Code, w.V)
	if len(s.Asked) != len(w.Asks) {
		t.Errorf("%s: behind its end it has asked for %v", w.Name, s.Asked)
	}
}

// over: a machine that has ended stays as it is (R8).
func (k Machine[O]) over(t Reporter, name string, m cells.Mem, o O, code int, v int64) {
	for range 3 {
		if code2, v2 := k.Answer(o); code2 != code || v2 != v {
			t.Errorf("%s: it answers %d, %d, want %d, %d", name, code2, v2, code, v)
		}
		if k.Step(m, o) != o || k.Step(nil, o) != o {
			t.Errorf("%s: a step behind the end gives another machine", name)
		}
	}
}

// refused: if the access number n is refused the machine is broken, and what was stored stays (R9).
func (k Machine[O]) refused(t Reporter, w Way[O], n int) {
	m, twin := Laid(w.Held...), Laid(w.Held...)
	s := New(m)
	s.Refuse = n
	k.behind(twin, w.Op, n)
	k.over(t, w.Name+", refused", s, k.behind(s, w.Op, n+1), api.Broken, 0)
	if len(s.Asked) != n+1 || !slices.Equal(m.Cells(), twin.Cells()) {
		t.Errorf("%s: the access %d refused: asked for %v, the cells hold %v, want %v", w.Name, n, s.Asked, m.Cells(), twin.Cells())
	}
}

// noMemory: a step without a memory, or on one that is not there, breaks the machine ahead of the access number n (R9).
func (k Machine[O]) noMemory(t Reporter, w Way[O], n int) {
	m := Laid(w.Held...)
	o := k.behind(m, w.Op, n)
	var arena *cells.Arena
	var shared *cells.Shared
	for _, none := range []cells.Mem{nil, arena, shared} {
		k.over(t, w.Name+", without a memory", m, k.Step(none, o), api.Broken, 0)
	}
}

// copied: behind n steps a copy goes on by itself, and comes to the same (R10).
func (k Machine[O]) copied(t Reporter, w Way[O], n int) {
	m := Laid(w.Held...)
	o := k.behind(m, w.Op, n)
	twin := Laid(m.Cells()...)
	kept := o
	code, v := k.Through(m, o)
	code2, v2 := k.Through(twin, kept)
	if kept != o || code != w.Code || v != w.V || code2 != code || v2 != v || !slices.Equal(m.Cells(), twin.Cells()) {
		t.Errorf("%s: behind the step %d: %d, %d, the cells hold %v; the copy: %d, %d, %v", w.Name, n, code, v, m.Cells(), code2, v2, twin.Cells())
	}
}
