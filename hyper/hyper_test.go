package hyper_test

import (
	"math"
	"math/rand"
	"slices"
	"sync"
	"testing"

	"plunder/api"
	"plunder/hyper"
	"plunder/ops"
)

// The deeds of the chapter's examples.
const (
	one   = "w1 S w2 r R w3 r Y w4 r"
	three = "S w1 R S w2 R S w3 R w4 r Y"
	deep  = "S S w1 R w2 r R w3 r"
)

func merges(m ...api.Merge) []api.Merge { return m }

func looks(l ...[]int64) [][]int64 { return l }

func locs(n ...int64) []int64 { return n }

// The chapter's examples, and others by hand.
func TestExamples(t *testing.T) {
	four := locs(1, 2, 3, 4)
	for _, c := range []struct {
		deeds, stolen string
		picks         []int
		want          api.Views
	}{
		{one, "0", nil, api.Views{Final: four, Made: 1, Looks: looks(locs(1, 2), locs(1, 2, 3), four)}},
		{one, "1", nil, api.Views{Final: four, Made: 2, Merges: merges(api.Merge{At: 7, Left: 0, Right: 1}), Looks: looks(locs(1, 2), locs(3), four)}},
		{three, "1 1 1", nil, api.Views{Final: four, Made: 4, Merges: merges(api.Merge{At: 11, Left: 0, Right: 1}, api.Merge{At: 11, Left: 0, Right: 2}, api.Merge{At: 11, Left: 0, Right: 3}), Looks: looks(locs(4))}},
		{three, "1 1 1", []int{2, 1}, api.Views{Final: four, Made: 4, Merges: merges(api.Merge{At: 11, Left: 2, Right: 3}, api.Merge{At: 11, Left: 1, Right: 2}, api.Merge{At: 11, Left: 0, Right: 1}), Looks: looks(locs(4))}},
		{three, "1 0 1", []int{-1}, api.Views{Final: four, Made: 3, Merges: merges(api.Merge{At: 11, Left: 1, Right: 2}, api.Merge{At: 11, Left: 0, Right: 1}), Looks: looks(locs(4))}},
		{deep, "1 1", nil, api.Views{Final: locs(1, 2, 3), Made: 3, Merges: merges(api.Merge{At: 6, Left: 0, Right: 1}, api.Merge{At: 9, Left: 0, Right: 2}), Looks: looks(locs(2), locs(3))}},
		{"S S w1 r", "1 1", nil, api.Views{Final: locs(1), Made: 1, Looks: looks(locs(1))}},
		{"w5 Y", "1 1 1", nil, api.Views{Final: locs(5), Made: 1}},

		{"", "1", []int{7}, api.Views{Made: 1}},
		{"r S r R r", "1", nil, api.Views{Made: 2, Merges: merges(api.Merge{At: 5, Left: 0, Right: 1}), Looks: looks(nil, nil, nil)}},
		// a child that has a stolen continuation above puts into the newest view, which is lent to it
		{"w1 S R w2 S w3 r R w4 r", "1 0", nil, api.Views{Final: four, Made: 2, Merges: merges(api.Merge{At: 10, Left: 0, Right: 1}), Looks: looks(locs(2, 3), locs(2, 3, 4))}},
		// what is left at the end is merged from the current task up; a merge of two takes a pick too
		{"w1 S R S w2 S R w3", "1 0 1", []int{5, 5}, api.Views{Final: locs(1, 2, 3), Made: 3, Merges: merges(api.Merge{At: 8, Left: 1, Right: 2}, api.Merge{At: 8, Left: 0, Right: 1})}},
		{"S R Y S R S R Y S R S R", "1 1 1 1 1", []int{1, 1, 0, 1}, api.Views{Made: 6, Merges: merges(api.Merge{At: 2, Left: 0, Right: 1}, api.Merge{At: 7, Left: 2, Right: 3}, api.Merge{At: 7, Left: 0, Right: 2}, api.Merge{At: 12, Left: 4, Right: 5}, api.Merge{At: 12, Left: 0, Right: 4})}},
		// spawns are numbered as they come, not as their children return
		{"S S w1 R w2 R w3", "0 1", nil, api.Views{Final: locs(1, 2, 3), Made: 2, Merges: merges(api.Merge{At: 5, Left: 0, Right: 1})}},
		{"S S w1 R w2 R w3", "1 0", nil, api.Views{Final: locs(1, 2, 3), Made: 2, Merges: merges(api.Merge{At: 7, Left: 0, Right: 1})}},
		// the greatest and the least picks
		{"S R S R S R S R S R", "1 1 1 1 1", []int{math.MinInt, math.MaxInt}, api.Views{Made: 6, Merges: merges(api.Merge{At: 10, Left: 2, Right: 3}, api.Merge{At: 10, Left: 4, Right: 5}, api.Merge{At: 10, Left: 0, Right: 1}, api.Merge{At: 10, Left: 0, Right: 2}, api.Merge{At: 10, Left: 0, Right: 4})}},
	} {
		got, err := hyper.Play(list(c.deeds), bits(c.stolen), c.picks)
		if err != api.OK || !same(got, c.want) {
			t.Errorf("23.1 to 23.3: Play(%s, %s, %v) = %+v, %d, want %+v", c.deeds, c.stolen, c.picks, got, err, c.want)
		}
		if l, err := hyper.Serial(list(c.deeds)); err != api.OK || !slices.Equal(l, c.want.Final) {
			t.Errorf("23.5: Serial(%s) = %v, %d", c.deeds, l, err)
		}
	}
}

// 23.4: the chapter's examples, and one of each operation.
func TestFold(t *testing.T) {
	for _, c := range []struct {
		op    int
		deeds string
		want  int64
		err   api.Errno
	}{
		{api.Add, one, 10, api.OK}, {api.Add, three, 10, api.OK}, {api.Mul, one, 24, api.OK}, {api.Max, "w-3 S w-2 R w-5", -2, api.OK}, {api.Min, "w-3 S w-2 R w-5", -5, api.OK},
		{api.And, "w12 S w6 R w7", 4, api.OK}, {api.Or, "w8 S w2 R w3", 11, api.OK}, {api.Xor, "w9 S w5 R w9 w1", 4, api.OK}, {api.Add, "w9223372036854775807 S R w1", math.MinInt64, api.OK},
		{api.Add, "", 0, api.OK}, {api.Mul, "", 1, api.OK}, {api.And, "", -1, api.OK}, {api.Or, "", 0, api.OK}, {api.Xor, "S R", 0, api.OK}, {api.Min, "S", math.MaxInt64, api.OK}, {api.Max, "", math.MinInt64, api.OK},
		{api.Sub, one, 0, api.ErrUnit}, {api.Div, one, 0, api.ErrUnit}, {api.Rem, one, 0, api.ErrUnit}, {api.Shl, one, 0, api.ErrUnit}, {api.Shr, one, 0, api.ErrUnit}, {api.Lt, one, 0, api.ErrUnit}, {api.Le, one, 0, api.ErrUnit}, {api.Eq, one, 0, api.ErrUnit}, {api.Ne, "", 0, api.ErrUnit},
		{16, one, 0, api.ErrOp}, {-1, "", 0, api.ErrOp}, {math.MinInt, one, 0, api.ErrOp}, {math.MaxInt, one, 0, api.ErrOp},
	} {
		for _, stolen := range []string{"", "1", "1 1 1"} {
			for _, picks := range [][]int{nil, {1}, {1, 1}} {
				if v, err := hyper.Fold(c.op, list(c.deeds), bits(stolen), picks); v != c.want || err != c.err {
					t.Errorf("23.4: Fold(%d, %s, %s, %v) = %d, %d, want %d, %d", c.op, c.deeds, stolen, picks, v, err, c.want, c.err)
				}
			}
		}
	}
}

// 23.3 to 23.5, R4, R5: what is refused, and what is refused first.
func TestRefusals(t *testing.T) {
	kind := func(k int) []api.Deed { return append(list("w1 S w2 R r"), api.Deed{Kind: k}) }
	most, many, tooMany := make([]api.Deed, api.MaxDeeds), make([]bool, api.MaxDeeds), make([]bool, api.MaxDeeds+1)
	picks := make([]int, api.MaxPicks+1)
	for i, c := range []struct {
		deeds  []api.Deed
		stolen []bool
		picks  []int
		err    api.Errno // of Play
		serial api.Errno
	}{
		{nil, nil, nil, api.OK, api.OK},
		{list("w1 R"), nil, nil, api.ErrDeed, api.ErrDeed},
		{list("S R R w1"), bits("1"), []int{1}, api.ErrDeed, api.ErrDeed},
		{kind(-1), bits("1"), nil, api.ErrDeed, api.ErrDeed},
		{kind(5), bits("1"), nil, api.ErrDeed, api.ErrDeed},
		{kind(math.MinInt), nil, nil, api.ErrDeed, api.ErrDeed},
		{kind(math.MaxInt), nil, nil, api.ErrDeed, api.ErrDeed},
		{most, many, picks[:api.MaxPicks], api.OK, api.OK},
		{append(slices.Clone(most[1:]), api.Deed{Kind: 5}), many, picks[:api.MaxPicks], api.ErrDeed, api.ErrDeed},
		{append(slices.Clone(most), api.Deed{}), nil, nil, api.ErrLong, api.ErrLong},
		{append(list("R"), most...), nil, nil, api.ErrLong, api.ErrLong},
		{list("w1"), tooMany, nil, api.ErrLong, api.OK},
		{list("w1"), nil, picks, api.ErrLong, api.OK},
		{list("R"), tooMany, nil, api.ErrLong, api.ErrDeed},
		{list("R"), nil, picks, api.ErrLong, api.ErrDeed},
		{append(list("R"), most...), tooMany, picks, api.ErrLong, api.ErrLong},
	} {
		if v, err := hyper.Play(c.deeds, c.stolen, c.picks); err != c.err || err != api.OK && !same(v, api.Views{}) {
			t.Errorf("23.3: case %d: Play = %v, %d, want %d", i, v, err, c.err)
		}
		for op := -1; op <= api.NumOps; op++ {
			_, want := ops.Fold(op, nil)
			if want == api.OK {
				want = c.err
			}
			if v, err := hyper.Fold(op, c.deeds, c.stolen, c.picks); err != want || err != api.OK && v != 0 {
				t.Errorf("23.4: case %d: Fold(%d, ..) = %d, %d, want %d", i, op, v, err, want)
			}
		}
		if l, err := hyper.Serial(c.deeds); err != c.serial || err != api.OK && len(l) != 0 {
			t.Errorf("23.5: case %d: Serial = %v, %d, want %d", i, l, err, c.serial)
		}
	}
}

// 23.1: places play no part but where they are put, and what a spawn, a return, a sync or a look has as its place is not looked at.
func TestPlaces(t *testing.T) {
	r := rand.New(rand.NewSource(231))
	for range 200 {
		deeds := drawDeeds(r, 30, drawWays(r))
		other := slices.Clone(deeds)
		for i := range other {
			if other[i].Kind != api.DWrite {
				other[i].Loc = int64(r.Uint64())
			}
		}
		stolen, picks := drawStolen(r, 30), drawPicks(r, 30)
		a, err := hyper.Play(deeds, stolen, picks)
		b, err2 := hyper.Play(other, stolen, picks)
		if err != api.OK || err2 != api.OK || !same(a, b) {
			t.Fatalf("23.1: %s: %v with some places, %v with others", text(deeds), a, b)
		}
	}
}

// 23.12: what is handed in stays as it is, in the room behind its end too; answers are new memory.
func TestMemory(t *testing.T) {
	r := rand.New(rand.NewSource(2312))
	for range 300 {
		deeds := drawDeeds(r, 40, ways{spawn: 3, back: 3, sync: 1, read: 2, write: 4})
		stolen, picks := drawStolen(r, 20), drawPicks(r, 20)
		behind := api.Deed{Kind: -5, Loc: 99}
		d := append(slices.Clone(deeds), behind)[:len(deeds)]
		s := append(slices.Clone(stolen), true)[:len(stolen)]
		p := append(slices.Clone(picks), 77)[:len(picks)]
		v, _ := hyper.Play(d, s, p)
		l, _ := hyper.Serial(d)
		hyper.Fold(api.Add, d, s, p)
		untouched := func() bool {
			return slices.Equal(d, deeds) && slices.Equal(s, stolen) && slices.Equal(p, picks) && d[:len(d)+1][len(d)] == behind && s[:len(s)+1][len(s)] && p[:len(p)+1][len(p)] == 77
		}
		if !untouched() {
			t.Fatalf("23.12: what Play(%s, %v, %v) was given was changed", text(deeds), stolen, picks)
		}
		want, puts := copied(v), slices.Clone(l)
		if !apart(v) {
			t.Fatalf("23.12: lists of Play(%s, %v, %v) share memory", text(deeds), stolen, picks)
		}
		fill(l, -7)
		for i := range v.Merges[:cap(v.Merges)] {
			v.Merges[:cap(v.Merges)][i] = api.Merge{At: -7}
		}
		again, _ := hyper.Play(d, s, p)
		if l, _ = hyper.Serial(d); !same(again, want) || !slices.Equal(l, puts) || !untouched() {
			t.Fatalf("23.12: of %s another answer, once the first was written into", text(deeds))
		}
	}
}

// fill writes into all of a list's memory.
func fill(l []int64, v int64) {
	l = l[:cap(l)]
	for i := range l {
		l[i] = v
	}
}

// apart writes into each list, as far as its memory goes, and tells whether no other list shows that.
func apart(v api.Views) bool {
	lists := append(slices.Clone(v.Looks), v.Final)
	for i, l := range lists {
		fill(l, int64(i))
	}
	for i, l := range lists {
		for _, x := range l[:cap(l)] {
			if x != int64(i) {
				return false
			}
		}
	}
	return true
}

// R2: calls side by side, and again and again, answer the same.
func TestSideBySide(t *testing.T) {
	r := rand.New(rand.NewSource(232))
	deeds := drawDeeds(r, 500, ways{spawn: 3, back: 3, sync: 1, read: 1, write: 2})
	stolen, picks := drawStolen(r, 200), drawPicks(r, 200)
	want := modelled(deeds, stolen, picks)
	sum, _ := ops.Fold(api.Add, puts(deeds))
	var group sync.WaitGroup
	for range 8 {
		group.Add(1)
		go func() {
			defer group.Done()
			for range 5 {
				v, err := hyper.Play(deeds, stolen, picks)
				n, err2 := hyper.Fold(api.Add, deeds, stolen, picks)
				if err != api.OK || err2 != api.OK || !same(v, want) || n != sum {
					t.Errorf("R2: Play and Fold side by side: %d, %d", err, err2)
				}
			}
		}()
	}
	group.Wait()
}
