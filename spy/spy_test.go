package spy_test

import (
	"math/rand"
	"slices"
	"testing"

	"plunder/api"
	"plunder/cells"
	"plunder/spy"
)

// faults counts what a check has to say.
type faults int

func (f *faults) Errorf(string, ...any) { *f++ }

// op is a small machine: it loads the cell 0, stores the value into the cell 1, and answers it.
type op struct {
	at, code int
	v        int64
}

func answer(o op) (int, int64) {
	switch {
	case o == op{}:
		return api.Broken, 0
	case o.at < 3:
		return api.Running, 0
	}
	return o.code, o.v
}

func step(m cells.Mem, o op) op {
	if o == (op{}) || o.at == 3 {
		return o
	}
	if m == nil {
		return op{}
	}
	if o.at == 1 {
		v, err := m.Load(0)
		if err != api.OK {
			return op{}
		}
		return op{at: 2, v: v}
	}
	if m.Store(1, o.v) != api.OK {
		return op{}
	}
	return op{at: 3, code: api.Read, v: o.v}
}

func check(k spy.Machine[op]) int {
	var f faults
	k.Check(&f, []spy.Way[op]{spy.Case("both", []int64{7, 0}, op{at: 1}, []api.Act{spy.Load(0), spy.Store(1, 7)}, api.Read, 7)})
	k.Broken(&f, op{})
	k.Running(&f, op{at: 1}, op{at: 2})
	return int(f)
}

func TestGoodMachine(t *testing.T) {
	if n := check(spy.Machine[op]{Step: step, Answer: answer}); n != 0 {
		t.Errorf("a machine that keeps all rules: %d faults", n)
	}
}

// Each of these breaks a rule in one place.
func TestFaultyMachines(t *testing.T) {
	for name, k := range map[string]spy.Machine[op]{
		"two accesses in a step": {Step: func(m cells.Mem, o op) op {
			if m != nil && o.at == 2 {
				m.Load(0)
			}
			return step(m, o)
		}, Answer: answer},
		"no access in a step": {Step: func(m cells.Mem, o op) op {
			if m != nil && o.at == 2 {
				return op{at: 3, code: api.Read, v: o.v}
			}
			return step(m, o)
		}, Answer: answer},
		"an access behind the end": {Step: func(m cells.Mem, o op) op {
			if m != nil && o.at == 3 {
				m.Store(1, 8)
			}
			return step(m, o)
		}, Answer: answer},
		"an access by a broken one": {Step: func(m cells.Mem, o op) op {
			if m != nil && o == (op{}) {
				m.Load(0)
			}
			return step(m, o)
		}, Answer: answer},
		"another one behind the end": {Step: func(m cells.Mem, o op) op {
			if o.at == 3 {
				return op{at: 4, code: o.code, v: o.v}
			}
			return step(m, o)
		}, Answer: answer},
		"a refusal that is not seen": {Step: func(m cells.Mem, o op) op {
			if m != nil && o.at == 2 {
				m.Store(1, o.v)
				return op{at: 3, code: api.Read, v: o.v}
			}
			return step(m, o)
		}, Answer: answer},
		"no memory that is not seen": {Step: func(m cells.Mem, o op) op {
			if m == nil {
				return o
			}
			return step(m, o)
		}, Answer: answer},
		"an answer ahead of the end": {Step: step, Answer: func(o op) (int, int64) {
			if o.at == 2 {
				return api.Running, o.v
			}
			return answer(o)
		}},
		"a zero one that goes on": {Step: step, Answer: func(o op) (int, int64) {
			if o == (op{}) {
				return api.Running, 0
			}
			return answer(o)
		}},
	} {
		if check(k) == 0 {
			t.Errorf("%s: it is not found", name)
		}
	}
}

func TestMem(t *testing.T) {
	s := spy.New(spy.Laid(4, 5))
	s.Load(0)
	s.Add(1, -2)
	s.CAS(1, 3, 9)
	s.Store(0, 6)
	if base, err := s.Reserve(2); base != 2 || err != api.OK {
		t.Errorf("Reserve: %d, %d", base, err)
	}
	if v, err := s.Load(1); v != 9 || err != api.OK {
		t.Errorf("Load: %d, %d", v, err)
	}
	s.Refuse = len(s.Asked)
	if v, err := s.Load(0); v != 99 || err != api.ErrAct {
		t.Errorf("a Load that is refused: %d, %d", v, err)
	}
	if err := s.Store(0, 1); err != api.ErrAct {
		t.Errorf("a Store that is refused: %d", err)
	}
	if ok, err := s.CAS(0, 1, 2); !ok || err != api.ErrAct {
		t.Errorf("a CAS that is refused: %v, %d", ok, err)
	}
	if v, err := s.Add(0, 1); v != 99 || err != api.ErrAct {
		t.Errorf("an Add that is refused: %d, %d", v, err)
	}
	if _, err := s.Reserve(1); err != api.ErrAct {
		t.Errorf("a Reserve that is refused: %d", err)
	}
	want := []api.Act{spy.Load(0), spy.Add(1, -2), spy.CAS(1, 3, 9), spy.Store(0, 6), spy.Reserve(2), spy.Load(1), spy.Load(0), spy.Store(0, 1), spy.CAS(0, 1, 2), spy.Add(0, 1), spy.Reserve(1)}
	if !slices.Equal(s.Asked, want) {
		t.Errorf("asked for %v, want %v", s.Asked, want)
	}
}

// A routine goes on from wait to wait, and is left where it stands.
func TestRoutine(t *testing.T) {
	var did []int
	r := spy.Begin(func(wait func()) {
		for i := range 3 {
			did = append(did, i)
			wait()
		}
		did = append(did, 9)
	})
	for n, want := range [][]int{{0}, {0, 1}, {0, 1, 2}, {0, 1, 2, 9}} {
		if n > 0 && r.Pick() != (n < 3) || !slices.Equal(did, want) {
			t.Errorf("behind %d picks it did %v, want %v", n, did, want)
		}
	}
	if r.Pick() {
		t.Errorf("a pick behind the end")
	}
	r.Stop()

	left := false
	r = spy.Begin(func(wait func()) {
		defer func() { left = true }()
		wait()
		t.Errorf("it went on, but was stopped")
	})
	if r.Stop(); !left || r.Pick() {
		t.Errorf("it was stopped, and stays")
	}
	defer func() {
		if x := recover(); x != "its own" {
			t.Errorf("the panic %v", x)
		}
	}()
	spy.Begin(func(func()) { panic("its own") })
}

func TestPicks(t *testing.T) {
	rng := rand.New(rand.NewSource(3))
	low, high := 0, 0
	for n := range 300 {
		picks := spy.Picks(rng.Intn, n, 1+n%9)
		if len(picks) != n {
			t.Errorf("%d picks, want %d", len(picks), n)
		}
		for _, x := range picks {
			low, high = min(low, x), max(high, x)
		}
	}
	if low > -1<<60 || high < 1<<60 {
		t.Errorf("all picks are from %d to %d", low, high)
	}
}
