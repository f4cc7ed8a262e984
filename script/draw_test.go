package script_test

import (
	"math"
	"slices"
	"testing"

	"plunder/api"
	"plunder/script"
)

// draw draws so many times, by the method itself.
func draw(d *script.Drawer, n int) []int {
	var draws []int
	for range n {
		draws = append(draws, d.Draw())
	}
	return draws
}

// 10.9
func TestDrawers(t *testing.T) {
	for _, c := range []struct {
		list       []int
		last, loop []int
	}{
		{[]int{4, 5}, []int{4, 5, 0, 0, 0}, []int{4, 5, 4, 5, 4}}, {[]int{9}, []int{9, 0, 0, 0, 0}, []int{9, 9, 9, 9, 9}}, {nil, make([]int, 5), make([]int, 5)}, {[]int{}, make([]int, 5), make([]int, 5)},
		{[]int{math.MinInt, 0, math.MaxInt}, []int{math.MinInt, 0, math.MaxInt, 0, 0}, []int{math.MinInt, 0, math.MaxInt, math.MinInt, 0}},
	} {
		if got := draw(script.List(c.list), 5); !slices.Equal(got, c.last) {
			t.Errorf("10.9: List(%v) draws %v, want %v", c.list, got, c.last)
		}
		if got := draw(script.Loop(c.list), 5); !slices.Equal(got, c.loop) {
			t.Errorf("10.9: Loop(%v) draws %v, want %v", c.list, got, c.loop)
		}
	}
	for name, d := range map[string]*script.Drawer{"nil": nil, "new": new(script.Drawer), "List": script.List(nil), "Loop": script.Loop(nil)} {
		if got := draw(d, 1000); !slices.Equal(got, make([]int, 1000)) {
			t.Errorf("10.9: the drawer %s draws %v", name, got)
		}
	}
}

// 10.9: never nil.
func TestDrawersAreThere(t *testing.T) {
	for name, d := range map[string]*script.Drawer{"List": script.List(nil), "Loop": script.Loop(nil), "List of none": script.List([]int{}), "Loop of none": script.Loop([]int{}), "Seeded": script.Seeded(0)} {
		if d == nil {
			t.Errorf("10.9: %s answers nil", name)
		}
	}
}

// 10.9: numbers that were worked out by hand, and many by the words.
func TestSeeded(t *testing.T) {
	for seed, want := range map[int64][]int{
		0: {143722618, 747896019, -105832728, -726814542}, 1: {905452631, 3264972, 48079032, 180273650}, -1: {-618007395, -654956583, -259744488, 513580913},
		math.MaxInt64: {455734429, 418785241, 813997336, -560160911}, math.MinInt64: {-930019206, -325845805, 967909096, 346927282},
	} {
		if got := draw(script.Seeded(seed), 4); !slices.Equal(got, want) {
			t.Errorf("10.9: Seeded(%d) draws %v, want %v", seed, got, want)
		}
	}
	for _, seed := range seeds {
		got := draw(script.Seeded(seed), 2000)
		if !slices.Equal(got, wordsSeeded(seed, 2000)) {
			t.Errorf("10.9: Seeded(%d) draws %v", seed, got)
		}
		if slices.Min(got) < -1073741824 || slices.Max(got) > 1073741823 {
			t.Errorf("10.9: Seeded(%d) draws from %d to %d", seed, slices.Min(got), slices.Max(got))
		}
	}
}

// 10.9, R3: the list is kept as a copy.
func TestDrawersKeepCopies(t *testing.T) {
	list := []int{1, 2, 3, 4}
	last, loop := script.List(list[:2]), script.Loop(list[:2])
	list[0], list[1] = 50, 60
	list[2] = 70
	if got := draw(last, 3); !slices.Equal(got, []int{1, 2, 0}) {
		t.Errorf("10.9: List draws %v", got)
	}
	if got := draw(loop, 3); !slices.Equal(got, []int{1, 2, 1}) || !slices.Equal(list, []int{50, 60, 70, 4}) {
		t.Errorf("10.9: Loop draws %v, the list is %v", got, list)
	}
}

// 10.9: drawers do not touch each other, those of one list or seed neither, nor a drawer and a copy of it.
func TestDrawersDoNotTouchEachOther(t *testing.T) {
	list := []int{7, 8, 9}
	for name, fresh := range map[string]func() *script.Drawer{
		"List": func() *script.Drawer { return script.List(list) }, "Loop": func() *script.Drawer { return script.Loop(list) }, "Seeded": func() *script.Drawer { return script.Seeded(5) },
	} {
		want := draw(fresh(), 8)
		a, b := fresh(), fresh()
		first := draw(a, 2)
		twin := *a
		if got := append(first, draw(a, 6)...); !slices.Equal(got, want) {
			t.Errorf("10.9: %s draws %v, want %v", name, got, want)
		}
		if got := draw(b, 8); !slices.Equal(got, want) {
			t.Errorf("10.9: a second %s draws %v, want %v", name, got, want)
		}
		if got := draw(&twin, 6); !slices.Equal(got, want[2:]) {
			t.Errorf("10.9: the copy of %s draws %v, want %v", name, got, want[2:])
		}
	}
}

// counter is somebody else's Rand.
type counter struct{ drawn int }

func (c *counter) Draw() int {
	c.drawn++
	return 10 * c.drawn
}

// 10.10
func TestPull(t *testing.T) {
	c := &counter{}
	for _, x := range []struct {
		n    int
		want []int
	}{{3, []int{10, 20, 30}}, {0, nil}, {1, []int{40}}, {2, []int{50, 60}}} {
		if got, err := script.Pull(c, x.n); err != api.OK || !slices.Equal(got, x.want) {
			t.Errorf("10.10: Pull(%d) = %v, %d, want %v", x.n, got, err, x.want)
		}
	}
	if got, err := script.Pull(c, 1048576); err != api.OK || len(got) != 1048576 || got[0] != 70 || got[1048575] != 10*(6+1048576) || c.drawn != 6+1048576 {
		t.Errorf("10.10: Pull(1048576): %d draws, %d, %d drawn", len(got), err, c.drawn)
	}
	d := script.List([]int{4, 5, 6})
	for _, want := range [][]int{{4, 5}, {6, 0}, {0, 0}} {
		if got, err := script.Pull(d, 2); err != api.OK || !slices.Equal(got, want) {
			t.Errorf("10.10: Pull of a List = %v, %d, want %v", got, err, want)
		}
	}
}

// 10.10: what is refused, and what is refused first. Nothing is drawn then.
func TestPullRefusals(t *testing.T) {
	for _, n := range []int{math.MinInt, -1, 0, 1, 1048576, 1048577, math.MaxInt} {
		if got, err := script.Pull(nil, n); err != api.ErrNil || len(got) != 0 {
			t.Errorf("10.10: Pull(nil, %d) = %d draws, %d, want ErrNil", n, len(got), err)
		}
	}
	c := &counter{}
	for n, want := range map[int]api.Errno{-1: api.ErrArg, math.MinInt: api.ErrArg, 1048577: api.ErrLong, math.MaxInt: api.ErrLong} {
		if got, err := script.Pull(c, n); err != want || len(got) != 0 || c.drawn != 0 {
			t.Errorf("10.10: Pull(%d) = %d draws, %d, %d drawn, want %d", n, len(got), err, c.drawn, want)
		}
	}
	var nobody *script.Drawer
	if got, err := script.Pull(nobody, 3); err != api.OK || !slices.Equal(got, []int{0, 0, 0}) {
		t.Errorf("10.10: Pull of a nil Drawer = %v, %d", got, err)
	}
}
