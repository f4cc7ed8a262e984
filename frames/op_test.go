package frames_test

import (
	"math"
	"slices"
	"sync"
	"testing"

	"plunder/api"
	"plunder/cells"
	"plunder/frames"
	"plunder/spy"
)

const (
	least    = math.MinInt64
	greatest = math.MaxInt64
)

// Where things lie in the tables of two frames that the ways are told of.
const (
	base  = 2
	next  = 2
	join0 = 3
	mark0 = 4
	slot0 = 5
	join1 = 13
	mark1 = 14
	slot1 = 15
)

var table = frames.Table{Base: base, Frames: 2}

// held is what the cells hold if one of them holds v, and all others something that is not looked at.
func held(addr int, v int64) []int64 {
	now := make([]int64, 23)
	for i := range now {
		now[i] = 1000 + int64(i)
	}
	now[addr] = v
	return now
}

func acts(a ...api.Act) []api.Act { return a }

// 8.3, 8.4 and 8.7: calls of one access.
func shortWays() []spy.Way[frames.Op] {
	alloc, added := frames.Alloc(table), acts(spy.Add(next, 1))
	fork := frames.Fork(table, 1)
	return []spy.Way[frames.Op]{
		spy.Case("the first frame", held(next, 0), alloc, added, api.Got, 0),
		spy.Case("the last frame", held(next, 1), alloc, added, api.Got, 1),
		spy.Case("no frame is left", held(next, 2), alloc, added, api.Full, 0),
		spy.Case("none for long", held(next, 3), alloc, added, api.Full, 0),
		spy.Case("NEXT below 0", held(next, -1), alloc, added, api.Full, 0),
		spy.Case("NEXT far below 0", held(next, least), alloc, added, api.Full, 0),
		spy.Case("NEXT is the greatest", held(next, greatest-1), alloc, added, api.Full, 0),
		spy.Case("NEXT wraps round", held(next, greatest), alloc, added, api.Full, 0),
		spy.Case("the first child", held(join0, 1), frames.Fork(table, 0), acts(spy.Add(join0, 1)), api.Forked, 2),
		spy.Case("another child", held(join1, 7), fork, acts(spy.Add(join1, 1)), api.Forked, 8),
		spy.Case("JOIN comes to 0", held(join1, -1), fork, acts(spy.Add(join1, 1)), api.Forked, 0),
		spy.Case("JOIN wraps round", held(join1, greatest), fork, acts(spy.Add(join1, 1)), api.Forked, least),
		spy.Case("the first start", held(mark0, 0), frames.Start(table, 0), acts(spy.Add(mark0, 1)), api.Marked, 1),
		spy.Case("another start", held(mark1, 1), frames.Start(table, 1), acts(spy.Add(mark1, 1)), api.Marked, 2),
		spy.Case("MARK wraps round", held(mark1, greatest), frames.Start(table, 1), acts(spy.Add(mark1, 1)), api.Marked, least),
		spy.Case("the first slot", held(slot0, -5), frames.Fetch(table, 0, 0), acts(spy.Load(slot0)), api.Read, -5),
		spy.Case("the last slot", held(slot0+7, greatest), frames.Fetch(table, 0, 7), acts(spy.Load(slot0+7)), api.Read, greatest),
		spy.Case("a slot of the last frame", held(slot1+3, 0), frames.Fetch(table, 1, 3), acts(spy.Load(slot1+3)), api.Read, 0),
	}
}

// 8.5 and 8.6: calls of several accesses.
func longWays() []spy.Way[frames.Op] {
	finish, sync := frames.Finish(table, 1, 7, -8), frames.Sync(table, 1)
	left := acts(spy.Store(slot1+7, -8), spy.Add(join1, -1))
	last := append(slices.Clone(left), spy.Store(join1, 1))
	down := acts(spy.Add(join1, -1))
	through := append(slices.Clone(down), spy.Store(join1, 1))
	return []spy.Way[frames.Op]{
		spy.Case("others are out", held(join1, 3), finish, left, api.More, 2),
		spy.Case("the holder alone is left", held(join1, 2), finish, left, api.More, 1),
		spy.Case("the last one", held(join1, 1), finish, last, api.Last, 0),
		spy.Case("JOIN comes below 0", held(join1, 0), finish, left, api.More, -1),
		spy.Case("JOIN wraps round", held(join1, least), finish, left, api.More, greatest),
		spy.Case("the value 0 into the first slot", held(join0, 1), frames.Finish(table, 0, 0, 0), acts(spy.Store(slot0, 0), spy.Add(join0, -1), spy.Store(join0, 1)), api.Last, 0),
		spy.Case("the greatest value", held(join0, 6), frames.Finish(table, 0, 4, greatest), acts(spy.Store(slot0+4, greatest), spy.Add(join0, -1)), api.More, 5),
		spy.Case("children are out", held(join1, 9), sync, down, api.Waits, 8),
		spy.Case("a child is out", held(join1, 2), sync, down, api.Waits, 1),
		spy.Case("none is out", held(join1, 1), sync, through, api.Synced, 0),
		spy.Case("JOIN was 0", held(join1, 0), sync, down, api.Waits, -1),
		spy.Case("JOIN was the least", held(join1, least), sync, down, api.Waits, greatest),
		spy.Case("none of the first frame's is out", held(join0, 1), frames.Sync(table, 0), acts(spy.Add(join0, -1), spy.Store(join0, 1)), api.Synced, 0),
	}
}

// 8.8: tables that lie where no cells are, in part or wholly.
func outside() []spy.Way[frames.Op] {
	at := func(base int) frames.Table { return frames.Table{Base: base, Frames: 2} }
	three := []int64{0, 1, 0}
	return []spy.Way[frames.Op]{
		spy.Case("NEXT behind all cells", three, frames.Alloc(at(3)), acts(spy.Add(3, 1)), api.Broken, 0),
		spy.Case("NEXT far behind", three, frames.Alloc(at(greatest)), acts(spy.Add(greatest, 1)), api.Broken, 0),
		spy.Case("JOIN behind", three, frames.Fork(at(0), 1), acts(spy.Add(11, 1)), api.Broken, 0),
		spy.Case("JOIN wraps round", three, frames.Sync(at(greatest), 0), acts(spy.Add(least, -1)), api.Broken, 0),
		spy.Case("MARK behind", three, frames.Start(at(1), 0), acts(spy.Add(3, 1)), api.Broken, 0),
		spy.Case("a slot behind", three, frames.Finish(at(0), 0, 0, 6), acts(spy.Store(3, 6)), api.Broken, 0),
		spy.Case("a slot to read behind", three, frames.Fetch(at(0), 0, 7), acts(spy.Load(10)), api.Broken, 0),
		spy.Case("a slot wraps round", three, frames.Fetch(at(greatest-9), 0, 7), acts(spy.Load(least)), api.Broken, 0),
	}
}

// 8.3 to 8.8: the accesses in their order, the answers, what is refused; copies.
func TestWays(t *testing.T) {
	machine.Check(t, slices.Concat(shortWays(), longWays(), outside()))
}

// six is a call of each kind.
func six(x frames.Table, frame, slot int) []frames.Op {
	return []frames.Op{frames.Alloc(x), frames.Fork(x, frame), frames.Finish(x, frame, slot, 4), frames.Sync(x, frame), frames.Start(x, frame), frames.Fetch(x, frame, slot)}
}

// 8.2, 8.8 and example 3: what is broken from the start.
func TestBrokenFromTheStart(t *testing.T) {
	broken := []frames.Op{{}, frames.Finish(table, 0, 8, 1)}
	for _, n := range noFrames {
		broken = append(broken, six(frames.Table{Base: 0, Frames: n}, 0, 0)...)
	}
	for _, b := range []int{-1, least} {
		broken = append(broken, six(frames.Table{Base: b, Frames: 5}, 1, 1)...)
	}
	for _, f := range []int{-1, 2, least, greatest} {
		broken = append(broken, six(table, f, 0)[1:]...)
		broken = append(broken, frames.Finish(table, f, 0, 0))
	}
	for _, s := range []int{-1, 8, least, greatest} {
		broken = append(broken, frames.Finish(table, 0, s, 9), frames.Finish(table, 1, s, 0), frames.Fetch(table, 1, s))
	}
	broken = append(broken, six(frames.Table{Base: 0, Frames: 4096}, 4096, 0)[1:]...)
	machine.Broken(t, broken...)

	machine.Running(t, six(frames.Table{Base: 0, Frames: 1}, 0, 0)...)
	machine.Running(t, six(frames.Table{Base: greatest, Frames: 4096}, 4095, 7)...)
	machine.Running(t, frames.Finish(frames.Table{Frames: 1}, 0, 0, 0))
}

// Example 2: one op behind the other.
func TestExample(t *testing.T) {
	m := arena(t, 21)
	x := lay(t, m, 2)
	s := spy.New(m)
	for i, c := range []struct {
		op    frames.Op
		code  int
		v     int64
		steps int
	}{
		{frames.Alloc(x), api.Got, 0, 1}, {frames.Alloc(x), api.Got, 1, 1}, {frames.Alloc(x), api.Full, 0, 1},
		{frames.Fork(x, 0), api.Forked, 2, 1}, {frames.Fork(x, 0), api.Forked, 3, 1},
		{frames.Finish(x, 0, 5, 77), api.More, 2, 2}, {frames.Sync(x, 0), api.Waits, 1, 1}, {frames.Finish(x, 0, 1, -8), api.Last, 0, 3},
		{frames.Fetch(x, 0, 5), api.Read, 77, 1}, {frames.Sync(x, 0), api.Synced, 0, 2},
		{frames.Start(x, 1), api.Marked, 1, 1}, {frames.Start(x, 1), api.Marked, 2, 1},
	} {
		s.Asked = nil
		if code, v := machine.Through(s, c.op); code != c.code || v != c.v || len(s.Asked) != c.steps {
			t.Errorf("example 2, op %d: %d, %d in %d steps, want %d, %d in %d", i, code, v, len(s.Asked), c.code, c.v, c.steps)
		}
	}
	want := []int64{3, 1, 0, 0, -8, 0, 0, 0, 77, 0, 0, 1, 2, 0, 0, 0, 0, 0, 0, 0, 0}
	if got := m.Cells(); !slices.Equal(got, want) {
		t.Errorf("example 2 leaves %v, want %v", got, want)
	}
}

// 8.8: one op that is kept can be stepped on from again and again, and what others do in between is seen.
func TestKept(t *testing.T) {
	m := arena(t, 11)
	x := lay(t, m, 1)
	kept := frames.Step(m, frames.Finish(x, 0, 2, 6))
	first := frames.Step(m, kept)
	machine.Running(t, kept, first)
	for n := int64(-1); n > -4; n-- {
		if code, v := frames.Answer(frames.Step(m, kept)); code != api.More || v != n {
			t.Errorf("8.8: the kept op once more: %d, %d, want More, %d", code, v, n)
		}
	}
	if code, v := frames.Answer(frames.Step(m, first)); code != api.Last || v != 0 {
		t.Errorf("8.5: the one that brought JOIN to 0: %d, %d", code, v)
	}
	if v, _ := m.Load(1); v != 1 {
		t.Errorf("8.5: JOIN is %d", v)
	}
}

// 8.5 and 8.6 with goroutines: of a parent and its children just one comes to hold the frame, and it finds all values.
func TestGoroutines(t *testing.T) {
	for range 300 {
		m, _ := cells.NewShared(frames.Cells(9))
		x := lay(t, m, 9)
		found := make(chan [8]int64, 9)
		read := func() {
			var values [8]int64
			for j := range values {
				_, values[j] = machine.Through(m, frames.Fetch(x, 0, j))
			}
			found <- values
		}
		var all sync.WaitGroup
		for j := range 8 {
			machine.Through(m, frames.Fork(x, 0))
			all.Go(func() {
				if code, _ := machine.Through(m, frames.Finish(x, 0, j, int64(j*j+1))); code == api.Last {
					read()
				}
			})
		}
		if code, _ := machine.Through(m, frames.Sync(x, 0)); code == api.Synced {
			read()
		}
		all.Wait()
		close(found)
		if n := len(found); n != 1 || <-found != [8]int64{1, 2, 5, 10, 17, 26, 37, 50} {
			t.Fatalf("8.5, 8.6: %d came to hold the parent, or not all values were there", n)
		}
		if v, _ := m.Load(1); v != 1 {
			t.Fatalf("8.5, 8.6: JOIN is %d", v)
		}
	}
}
