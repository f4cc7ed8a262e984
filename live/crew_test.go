package live

import (
	"testing"

	"plunder/api"
	"plunder/asm"
	"plunder/cells"
	"plunder/samples"
	"plunder/script"
	"plunder/worker"
)

// A run whose limits do not suffice is given up by all goroutines, whichever of them finds it out. (17.1 lets none of that kind in.)
func TestGivenUp(t *testing.T) {
	for _, lim := range []api.Limits{{Frames: 1, First: 1, Most: 1}, {Frames: 100, First: 1, Most: 177}, {Frames: 177, First: 1, Most: 1}} {
		for _, workers := range []int{1, 2, 3, 5, api.MaxWorkers} {
			for range 10 {
				w, err := lay(samples.Fib(), []int64{10}, workers, lim)
				if err != api.OK {
					t.Fatal(err)
				}
				if v, err := playAll(w, workers); v != (api.Live{}) || err != api.ErrLimit {
					t.Errorf("%+v, %d workers: %+v, %d", lim, workers, v, err)
				}
			}
		}
	}
}

// Tokens are given back, and the stop may be given by several.
func TestTokens(t *testing.T) {
	for _, workers := range []int{1, 2, api.MaxWorkers} {
		w, _ := lay(samples.Count(), []int64{5000}, workers, api.Limits{Frames: 1, First: 1, Most: 1})
		c := newCrew(w, workers)
		if n := c.play(0); n != 1 || !w.Halted(0) || len(c.tokens) != tokenCount {
			t.Errorf("%d tasks, halted: %t, %d tokens of %d", n, w.Halted(0), len(c.tokens), tokenCount)
		}
		c.giveUp()
		c.giveUp()
		if c.hears(make(chan struct{})) {
			t.Error("something is heard that was not sent")
		}
	}
}

// late has one child, and counts for longer than a turn ahead of its sync.
func late() api.Program {
	return asm.Program(
		asm.Func(1, 3, 1, asm.Spawn(0, 1, 0), asm.Const(1, 1), asm.Const(2, turnSteps), asm.Arith(2, 2, api.Sub, 1), asm.Branch(2, 3), asm.Sync(), asm.Load(1, 0), asm.Return(1)),
		asm.Func(1, 1, 0, asm.Return(0)))
}

// pair is two players of one world, which nobody else plays.
func pair(t *testing.T) (*cells.Arena, *player, *player) {
	t.Helper()
	lim := api.Limits{Frames: 2, First: 1, Most: 2}
	m, _ := cells.New(worker.Need(2, lim))
	w, err := worker.New(m, late(), []int64{9}, 2, lim)
	if err != api.OK {
		t.Fatal(err)
	}
	m.Watch(true)
	c := newCrew(w, 2)
	return m, &player{crew: c, self: 0, draws: script.List(nil)}, &player{crew: c, self: 1, draws: script.List(nil)}
}

// A turn ends with the step in which the worker is parked; word that was left over lets it make a turn more, and it is parked still.
func TestParked(t *testing.T) {
	m, _, thief := pair(t)
	// Three attempts of three accesses with the look whether all is done; the flag, the sleepers, the look, and a deque.
	for _, accesses := range []int{14, 14 + turnSteps, 14 + 2*turnSteps} {
		if thief.turn(); !thief.parked || len(m.Log()) != accesses {
			t.Fatalf("parked: %t, %d accesses, want %d", thief.parked, len(m.Log()), accesses)
		}
		thief.rouse(1)
		thief.rouse(1)
		if !thief.waits() || len(thief.roused[1]) > 0 {
			t.Fatal("word was left, and it is not the worker's turn; or more of it was left than once")
		}
	}
	thief.giveUp()
	if thief.waits() {
		t.Error("no word was left, and it is the worker's turn")
	}
}

// Whoever wakes a worker leaves word for it, and so does whoever ends it all; with that the worker goes on.
func TestRoused(t *testing.T) {
	_, owner, thief := pair(t)
	thief.turn()
	if owner.turn(); len(owner.roused[1]) != 1 || owner.world.Halted(0) {
		t.Fatal("no word was left for a worker that was woken")
	}
	thief.waits()
	if thief.turn(); thief.starts != 1 || !thief.parked {
		t.Fatalf("one that was woken has started %d tasks and is parked: %t", thief.starts, thief.parked)
	}
	for !owner.world.Halted(0) {
		owner.turn()
	}
	if len(thief.roused[1]) != 1 {
		t.Fatal("no word was left for a worker at the end")
	}
	if thief.turn(); !thief.world.Halted(1) || thief.parked {
		t.Error("a worker has not halted at the end")
	}
}
