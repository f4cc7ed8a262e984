package hist_test

import (
	"iter"
	"math"
	"math/rand"
	"slices"
	"testing"

	"plunder/api"
	"plunder/hist"
)

// lists goes through all lists of unlike numbers below n, the empty one among them.
func lists(n int) iter.Seq[[]int] {
	return func(yield func([]int) bool) {
		var grow func(list []int) bool
		grow = func(list []int) bool {
			if !yield(slices.Clone(list)) {
				return false
			}
			for x := range n {
				if !slices.Contains(list, x) && !grow(append(slices.Clone(list), x)) {
					return false
				}
			}
			return true
		}
		grow(nil)
	}
}

// isHistory, isOrder: the document's words, read by hand.
func isHistory(calls []api.Call) bool {
	may := map[int][]int{api.TPush: {api.Pushed, api.Full}, api.TPop: {api.Got, api.Empty}, api.TSteal: {api.Got, api.Empty, api.Lost}}
	for i, y := range calls {
		codes, kind := may[y.Kind]
		over := y.End >= y.Begin && slices.Contains(codes, y.Code)
		under := y.End == -1 && y.Code == api.Running
		if !kind || y.Who < 0 || y.Who > 3 || (y.Who == 0) != (y.Kind != api.TSteal) || y.Begin < 0 || !over && !under {
			return false
		}
		for _, x := range calls[:i] {
			if x.Who == y.Who && (x.End == -1 || x.End >= y.Begin) {
				return false
			}
		}
	}
	return true
}

func isOrder(calls []api.Call, most int, order []int) bool {
	for n, c := range calls {
		if c.End != -1 && !slices.Contains(order, n) {
			return false
		}
	}
	var held []int64
	for i, n := range order {
		for _, m := range order[i:] {
			if calls[m].End != -1 && calls[m].End < calls[n].Begin {
				return false
			}
		}
		c := calls[n]
		switch {
		case c.Kind == api.TPush && c.Code == api.Full:
			if len(held) != most {
				return false
			}
		case c.Kind == api.TPush:
			if len(held) >= most {
				return false
			}
			held = append(held, c.Arg)
		case c.Code == api.Lost:
		case c.Code == api.Empty:
			if len(held) != 0 {
				return false
			}
		case len(held) == 0:
			return false
		default:
			at := 0
			if c.Kind == api.TPop {
				at = len(held) - 1
			}
			if c.Code == api.Got && held[at] != c.V {
				return false
			}
			held = slices.Delete(slices.Clone(held), at, at+1)
		}
	}
	return true
}

// anyCalls makes calls at random, many of which are histories.
func anyCalls(r *rand.Rand, n int) []api.Call {
	var calls []api.Call
	var clock [4]int
	codes := [][]int{{api.Pushed, api.Pushed, api.Full}, {api.Got, api.Got, api.Empty}, {api.Got, api.Got, api.Empty, api.Lost}}
	for range n {
		c := api.Call{Who: max(0, r.Intn(6)-2), Arg: int64(r.Intn(2)), V: int64(r.Intn(2)), Kind: api.TSteal}
		if c.Who == 0 {
			c.Kind = r.Intn(3) / 2
		}
		c.Begin = clock[c.Who] + r.Intn(3)
		c.End = c.Begin + r.Intn(6)
		c.Code = codes[c.Kind][r.Intn(len(codes[c.Kind]))]
		clock[c.Who] = c.End + 1
		if r.Intn(4) == 0 && !slices.ContainsFunc(calls, func(x api.Call) bool { return x.Who == c.Who && x.End == -1 }) {
			c.End, c.Code = -1, api.Running
		}
		switch r.Intn(30) {
		case 0:
			c.End--
		case 1:
			c.Begin -= 3
		case 2:
			c.Who = r.Intn(6) - 1
		case 3:
			c.Kind = r.Intn(5) - 1
		case 4:
			c.Code = r.Intn(9) - 1
		case 5:
			c.Begin, c.End = math.MaxInt, math.MaxInt
		}
		calls = append(calls, c)
	}
	return calls
}

// 4.1, 4.2: small lists of calls against the document's words, over all lists that could be an order.
func TestAgainstWords(t *testing.T) {
	r := rand.New(rand.NewSource(4))
	seen := map[api.Errno]int{}
	for range 4000 {
		calls := anyCalls(r, r.Intn(6))
		most := 1 + r.Intn(2)
		orders := 0
		for order := range lists(len(calls)) {
			want := isHistory(calls) && isOrder(calls, most, order)
			if want {
				orders++
			}
			if got := hist.Legal(calls, most, order); got != want {
				t.Fatalf("Legal(%v, %d, %v) = %v", calls, most, order, got)
			}
		}
		want := api.OK
		switch {
		case !isHistory(calls):
			want = api.ErrCall
		case orders == 0:
			want = api.ErrNone
		}
		seen[want]++
		order, err := hist.Order(calls, most)
		if err != want || err == api.OK && !isOrder(calls, most, order) || err != api.OK && len(order) > 0 {
			t.Fatalf("Order(%v, %d) = %v, %d, want %d", calls, most, order, err, want)
		}
		if again, _ := hist.Order(calls, most); !slices.Equal(order, again) {
			t.Fatalf("Order(%v, %d) = %v, and then %v", calls, most, order, again)
		}
	}
	for _, err := range []api.Errno{api.OK, api.ErrCall, api.ErrNone} {
		if seen[err] < 100 {
			t.Errorf("%d cases of %d", seen[err], err)
		}
	}
}

// ordered makes a history that has an order: calls whose effects come at moments of their own, within their times, told in any order of actors.
func ordered(r *rand.Rand, n, most int) []api.Call {
	var todos []api.Todo
	var whos []int
	for i := range n {
		who := r.Intn(4)
		kind := api.TSteal
		if who == 0 || r.Intn(3) == 0 {
			who, kind = 0, r.Intn(3)/2
		}
		todos = append(todos, api.Todo{Kind: kind, V: int64(i % 3)})
		whos = append(whos, who)
	}
	calls, _, _ := hist.Serial(todos, most)
	last := [4]int{-1, -1, -1, -1}
	for i := range calls {
		c := &calls[i]
		c.Who = whos[i]
		at := 10 * i
		c.Begin = max(last[c.Who]+1, at-r.Intn(60))
		c.End = at + r.Intn(9)
		last[c.Who] = c.End
	}
	for i := range calls { // an end is late where the actor's next call is
		next := slices.IndexFunc(calls[i+1:], func(c api.Call) bool { return c.Who == calls[i].Who })
		late := calls[i].End + r.Intn(60)
		if next >= 0 {
			late = min(late, calls[i+1+next].Begin-1)
		}
		calls[i].End = max(calls[i].End, late)
	}
	slices.SortStableFunc(calls, func(a, b api.Call) int { return (a.Who+3)%4 - (b.Who+3)%4 })
	return calls
}

// 4.1 to 4.3: long histories that have an order: Order tells one that is Legal, what is cut of them has one too, and one with a wrong element has none.
func TestLongHistories(t *testing.T) {
	r := rand.New(rand.NewSource(5))
	for range 300 {
		most := 1 + r.Intn(6)
		calls := ordered(r, 40, most)
		order, err := hist.Order(calls, most)
		if err != api.OK || !isOrder(calls, most, order) || !hist.Legal(calls, most, order) {
			t.Fatalf("Order(%v, %d) = %v, %d", calls, most, order, err)
		}
		for range 5 {
			pick := r.Intn(420) - 5
			part := hist.Cut(calls, pick)
			order, err := hist.Order(part, most)
			if err != api.OK || !isOrder(part, most, order) || !hist.Legal(part, most, order) {
				t.Fatalf("cut of %v at %d: Order(%v, %d) = %v, %d", calls, pick, part, most, order, err)
			}
		}
		if n := slices.IndexFunc(calls, func(c api.Call) bool { return c.Code == api.Got }); n >= 0 {
			calls[n].V = 12345
			if order, err := hist.Order(calls, most); err != api.ErrNone || len(order) > 0 {
				t.Fatalf("Order(%v, %d) = %v, %d, want none", calls, most, order, err)
			}
		}
	}
}

// 4.2: the search goes into no state twice: ten rounds of four calls each, which may stand in any order within their round, have more orders than anyone can go through.
func TestManyOrders(t *testing.T) {
	rounds := func(last api.Call) []api.Call {
		var calls []api.Call
		for i := range 10 {
			for who := 1; who <= 3; who++ {
				calls = append(calls, steal(who, unseen, api.Lost, i, i))
			}
			if i < 9 {
				calls = append(calls, push(int64(i), api.Pushed, i, i))
			}
		}
		return append(calls, last)
	}
	good, bad := rounds(pop(8, api.Got, 9, 9)), rounds(pop(7, api.Got, 9, 9))
	if order, err := hist.Order(good, 9); err != api.OK || !hist.Legal(good, 9, order) {
		t.Errorf("%v, %d", order, err)
	}
	if order, err := hist.Order(bad, 9); err != api.ErrNone || len(order) > 0 {
		t.Errorf("%v, %d, want none", order, err)
	}
}

// 4.2: two ways from one state do not see what the other one puts in: the unfinished steal must not be what makes room for 7, and where it is, 8 comes where 6 was.
func TestWaysApart(t *testing.T) {
	for who := 1; who <= 3; who++ {
		for other := 1; other <= 3; other++ {
			if other == who {
				continue
			}
			calls := []api.Call{
				push(4, api.Pushed, 0, 0), push(5, api.Pushed, 1, 1), push(6, api.Pushed, 2, 2),
				steal(who, 4, api.Got, 3, 20), openSteal(other, 3),
				push(7, api.Pushed, 4, 4), pop(7, api.Got, 5, 5), pop(6, api.Got, 6, 6), push(8, api.Pushed, 7, 7), pop(8, api.Got, 8, 8),
			}
			if order, err := hist.Order(calls, 3); err != api.OK || !isOrder(calls, 3, order) {
				t.Errorf("thieves %d and %d: %v, %d", who, other, order, err)
			}
		}
	}
}
