package frames_test

import (
	"math"
	"math/rand"
	"slices"
	"testing"

	"plunder/api"
	"plunder/frames"
	"plunder/spy"
)

func sameRun(a, b api.JoinRun) bool {
	return a.Done == b.Done && a.Steps == b.Steps && slices.Equal(a.Holders, b.Holders) && slices.EqualFunc(a.Reads, b.Reads, slices.Equal) && slices.Equal(a.Marks, b.Marks) && slices.Equal(a.Log, b.Log)
}

// whole is how many picks a play takes (8.10).
func whole(rounds []int) int {
	n := 2
	for _, r := range rounds {
		n += 6*r + 2
	}
	return n
}

// checkPlay holds a play against the model and against 8.10 and 8.11. It tells how many could be picked, pick by pick.
func checkPlay(t *testing.T, rounds, picks []int) []int {
	t.Helper()
	r, err := frames.Play(rounds, picks)
	want, choice := modelled(rounds, picks)
	if err != api.OK || !sameRun(r, want) {
		t.Fatalf("8.9: Play(%v, %v) = %+v, %d, want %+v", rounds, picks, r, err, want)
	}
	if n := whole(rounds); r.Done != (len(picks) >= n) || r.Steps != min(n, len(picks)) || len(r.Log) != r.Steps {
		t.Fatalf("8.10: Play(%v, %v): done %v, %d steps, a log of %d", rounds, picks, r.Done, r.Steps, len(r.Log))
	}
	checkReads(t, rounds, r)
	for f, mark := range r.Marks {
		if mark < 0 || mark > 1 || r.Done && mark != 1 {
			t.Fatalf("8.11: Play(%v, %v): frame %d has the mark %d", rounds, picks, f, mark)
		}
	}
	return choice
}

func checkReads(t *testing.T, rounds []int, r api.JoinRun) {
	t.Helper()
	if len(r.Reads) != len(r.Holders) || len(r.Holders) > len(rounds) || r.Done && len(r.Holders) != len(rounds) {
		t.Fatalf("8.11: %d rounds, %d holders, %d reads, done %v", len(rounds), len(r.Holders), len(r.Reads), r.Done)
	}
	for i, reads := range r.Reads {
		if over := r.Done || i+1 < len(r.Reads); len(reads) > rounds[i] || over && len(reads) != rounds[i] {
			t.Fatalf("8.11: round %d of %d reads %v", i, rounds[i], reads)
		}
		for j, v := range reads {
			if v != int64(100*i+j) {
				t.Fatalf("8.11: round %d reads %v", i, reads)
			}
		}
	}
}

func add(who, addr int, d, v int64) api.Access {
	return api.Access{Who: who, Kind: api.AcAdd, Addr: addr, A: d, B: v, OK: true}
}

func store(who, addr int, v int64) api.Access {
	return api.Access{Who: who, Kind: api.AcStore, Addr: addr, A: v, OK: true}
}

func load(who, addr int, v int64) api.Access {
	return api.Access{Who: who, Kind: api.AcLoad, Addr: addr, A: v, OK: true}
}

// 8.9: the examples 4 to 6.
func TestPlayExamples(t *testing.T) {
	head := []api.Access{add(0, 0, 1, 1), add(0, 2, 1, 1)}
	forked := slices.Concat(head, []api.Access{add(0, 0, 1, 2), add(0, 1, 1, 2)})
	for i, c := range []struct {
		rounds, picks []int
		want          api.JoinRun
	}{
		{nil, []int{9, 9}, api.JoinRun{Done: true, Steps: 2, Marks: []int64{1}, Log: head}},
		{nil, []int{9}, api.JoinRun{Steps: 1, Marks: []int64{0}, Log: head[:1]}},
		{nil, nil, api.JoinRun{Marks: []int64{0}}},
		{[]int{}, []int{math.MinInt, -7, 4, 4}, api.JoinRun{Done: true, Steps: 2, Marks: []int64{1}, Log: head}},
		{[]int{1}, make([]int, 10), api.JoinRun{Done: true, Steps: 10, Holders: []int{1}, Reads: [][]int64{{0}}, Marks: []int64{1, 1}, Log: slices.Concat(forked, []api.Access{
			add(0, 1, -1, 1), add(1, 12, 1, 1), store(1, 3, 0), add(1, 1, -1, 0), store(1, 1, 1), load(1, 3, 0)})}},
		{[]int{1}, []int{0, 0, 0, 0, 1, 1, 1, 0, 0, 0}, api.JoinRun{Done: true, Steps: 10, Holders: []int{0}, Reads: [][]int64{{0}}, Marks: []int64{1, 1}, Log: slices.Concat(forked, []api.Access{
			add(1, 12, 1, 1), store(1, 3, 0), add(1, 1, -1, 1), add(0, 1, -1, 0), store(0, 1, 1), load(0, 3, 0)})}},
		{[]int{0, 1}, []int{0, 0, 0, 0, 0, 0, math.MaxInt, -1, 0, 0, 0, 0}, api.JoinRun{Done: true, Steps: 12, Holders: []int{0, 1}, Reads: [][]int64{nil, {100}}, Marks: []int64{1, 1}, Log: slices.Concat(head, []api.Access{
			add(0, 1, -1, 0), store(0, 1, 1), add(0, 0, 1, 2), add(0, 1, 1, 2), add(1, 12, 1, 1), store(1, 3, 100), add(0, 1, -1, 1), add(1, 1, -1, 0), store(1, 1, 1), load(1, 3, 100)})}},
	} {
		if r, err := frames.Play(c.rounds, c.picks); err != api.OK || !sameRun(r, c.want) {
			t.Errorf("8.9, case %d: Play(%v, %v) = %+v, %d, want %+v", i, c.rounds, c.picks, r, err, c.want)
		}
	}
}

// 8.9 and example 7: what is refused, the first-named error first, and the greatest lists that are not.
func TestPlayRefusals(t *testing.T) {
	many := make([]int, api.MaxPicks+1)
	long := append(make([]int, 64), 9)
	for i, c := range []struct {
		rounds, picks []int
		err           api.Errno
	}{
		{[]int{9}, nil, api.ErrRound}, {[]int{-1}, nil, api.ErrRound}, {[]int{8, 0, math.MaxInt}, []int{1}, api.ErrRound}, {[]int{math.MinInt, 2}, nil, api.ErrRound}, {append(make([]int, 63), 9), many[1:], api.ErrRound},
		{long, nil, api.ErrLong}, {make([]int, 65), nil, api.ErrLong}, {nil, many, api.ErrLong}, {[]int{9}, many, api.ErrLong}, {long, many, api.ErrLong},
		{make([]int, 64), many[1:], api.OK}, {slices.Repeat([]int{8}, 64), nil, api.OK}, {[]int{0, 8}, []int{3}, api.OK},
	} {
		r, err := frames.Play(c.rounds, c.picks)
		if err != c.err || err != api.OK && !sameRun(r, api.JoinRun{}) {
			t.Errorf("8.9, case %d: %+v, %d, want %d", i, r, err, c.err)
		}
	}
}

// 8.9 to 8.11 for all scripts of small plays.
func TestAllScripts(t *testing.T) {
	all := [][]int{{0}, {1}, {2}, {0, 2}, {1, 1}, {1, 0, 1}, {2, 1}, {3}}
	if testing.Short() {
		all = all[:len(all)-1]
	}
	for _, rounds := range all {
		picks := make([]int, whole(rounds))
		for more := true; more; {
			choice := checkPlay(t, rounds, picks)
			more = following(picks, choice)
		}
	}
}

// following makes the picks those of the next script, if there is one: each is below how many could be picked.
func following(picks, choice []int) bool {
	for i := len(choice) - 1; i >= 0; i-- {
		if picks[i]++; picks[i] < choice[i] {
			return true
		}
		picks[i] = 0
	}
	return false
}

// 8.9 to 8.11 for drawn plays: any rounds, any picks, as many as suffice or fewer or more.
func TestDrawnPlays(t *testing.T) {
	rng := rand.New(rand.NewSource(8))
	plays := 1500
	if testing.Short() {
		plays = 150
	}
	for range plays {
		rounds := make([]int, rng.Intn(8))
		if rng.Intn(20) == 0 {
			rounds = make([]int, api.MaxRounds)
		}
		for i := range rounds {
			rounds[i] = rng.Intn(api.MaxSlots + 1)
		}
		n := whole(rounds)
		if rng.Intn(2) == 0 {
			n = max(0, n-3+rng.Intn(7))
		} else {
			n = rng.Intn(n + 2)
		}
		checkPlay(t, rounds, spy.Picks(rng.Intn, n, 8))
	}
}

// 8.10: more picks than a play takes are not looked at.
func TestMorePicks(t *testing.T) {
	rounds := []int{3, 0, 8, 1}
	n := whole(rounds)
	picks := make([]int, n, n+100)
	r, _ := frames.Play(rounds, picks)
	for _, x := range []int{0, 5, math.MaxInt, math.MinInt} {
		if more, err := frames.Play(rounds, append(picks, slices.Repeat([]int{x}, 100)...)); err != api.OK || !sameRun(r, more) {
			t.Errorf("8.10: with 100 picks more: %+v, %d, want %+v", more, err, r)
		}
	}
}

// 8.12: what is handed in stays as it is, with the room behind its end.
func TestPlayLeavesItsArguments(t *testing.T) {
	rounds, picks := []int{2, 0, 3, 7, 7}, make([]int, 90)
	for i := range picks {
		picks[i] = i * 7
	}
	rounds2, picks2 := slices.Clone(rounds), slices.Clone(picks)
	first, _ := frames.Play(rounds[:3], picks[:60])
	if !slices.Equal(rounds, rounds2) || !slices.Equal(picks, picks2) {
		t.Errorf("8.12: what was handed in has changed")
	}
	kept := copied(first)
	clear(rounds)
	clear(picks)
	if !sameRun(first, kept) {
		t.Errorf("8.12: what was handed in is kept")
	}
}

func copied(r api.JoinRun) api.JoinRun {
	r.Holders, r.Marks, r.Log, r.Reads = slices.Clone(r.Holders), slices.Clone(r.Marks), slices.Clone(r.Log), slices.Clone(r.Reads)
	for i := range r.Reads {
		r.Reads[i] = slices.Clone(r.Reads[i])
	}
	return r
}

// 8.12: no list that is answered shares memory with another one, or with a later answer's.
func TestPlayAnswersNewLists(t *testing.T) {
	rounds := []int{3, 1, 0, 2, 8}
	picks := spy.Picks(rand.New(rand.NewSource(5)).Intn, whole(rounds), 8)
	r, _ := frames.Play(rounds, picks)
	kept := copied(r)
	for i := range r.Reads {
		spoil(r.Reads[i])
		for k := i + 1; k < len(r.Reads); k++ {
			if !slices.Equal(r.Reads[k], kept.Reads[k]) {
				t.Errorf("8.12: the reads %d and %d share memory", i, k)
			}
		}
	}
	spoil(r.Marks)
	for i := range r.Holders {
		r.Holders[i] = -1
	}
	clear(r.Log)
	clear(r.Reads)
	if again, err := frames.Play(rounds, picks); err != api.OK || !sameRun(again, kept) {
		t.Errorf("8.12: the same play once more: %+v, %d, want %+v", again, err, kept)
	}
}

// spoil writes into a list and into the room behind it.
func spoil(list []int64) {
	list = list[:cap(list)]
	for i := range list {
		list[i] = -77
	}
}
