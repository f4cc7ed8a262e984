package hist_test

import (
	"math"
	"slices"
	"testing"

	"plunder/api"
	"plunder/hist"
)

// A call that has not answered Got has a V, and one that is no push an Arg, that nobody may look at.
const unseen = 77

func push(v int64, code, begin, end int) api.Call {
	return api.Call{Kind: api.TPush, Arg: v, Begin: begin, End: end, Code: code, V: unseen}
}

func pop(v int64, code, begin, end int) api.Call {
	return api.Call{Kind: api.TPop, Arg: unseen, Begin: begin, End: end, Code: code, V: v}
}

func steal(who int, v int64, code, begin, end int) api.Call {
	return api.Call{Who: who, Kind: api.TSteal, Arg: unseen, Begin: begin, End: end, Code: code, V: v}
}

func open(c api.Call) api.Call {
	c.End, c.Code = -1, api.Running
	return c
}

func openPush(v int64, begin int) api.Call  { return open(push(v, 0, begin, 0)) }
func openPop(begin int) api.Call            { return open(pop(unseen, 0, begin, 0)) }
func openSteal(who int, begin int) api.Call { return open(steal(who, unseen, 0, begin, 0)) }

// 4.1, 4.2: the examples, and what the plain deque allows. Each history has just the orders that are listed.
func TestOrders(t *testing.T) {
	five := push(5, api.Pushed, 0, 1)
	six := push(6, api.Pushed, 2, 3)
	for _, c := range []struct {
		name   string
		most   int
		calls  []api.Call
		orders [][]int
	}{
		{"nothing", 1, nil, [][]int{{}}},
		{"push, pop", 4, []api.Call{five, pop(5, api.Got, 2, 3)}, [][]int{{0, 1}}},
		{"steal finds nothing ahead", 4, []api.Call{five, steal(1, unseen, api.Empty, 0, 1)}, [][]int{{1, 0}}},
		{"the same moment is not ahead", 4, []api.Call{five, steal(1, unseen, api.Empty, 1, 1)}, [][]int{{1, 0}}},
		{"steal finds nothing behind", 4, []api.Call{five, steal(1, unseen, api.Empty, 2, 3)}, nil},
		{"steal of the newest", 4, []api.Call{five, six, steal(1, 6, api.Got, 4, 5)}, nil},
		{"steal of the oldest", 4, []api.Call{five, six, steal(1, 5, api.Got, 4, 5)}, [][]int{{0, 1, 2}}},
		{"pop of the oldest", 4, []api.Call{five, six, pop(5, api.Got, 4, 5)}, nil},
		{"pop of the newest", 4, []api.Call{five, six, pop(6, api.Got, 4, 5)}, [][]int{{0, 1, 2}}},
		{"pop and steal", 4, []api.Call{five, six, pop(6, api.Got, 4, 7), steal(1, 5, api.Got, 5, 6)}, [][]int{{0, 1, 2, 3}, {0, 1, 3, 2}}},
		{"pop has had its effect", 4, []api.Call{five, openPop(2), steal(1, unseen, api.Empty, 3, 4)}, [][]int{{0, 1, 2}}},
		{"push has had its effect", 4, []api.Call{openPush(5, 0), steal(1, 5, api.Got, 3, 6)}, [][]int{{0, 1}}},
		{"steal has had its effect", 1, []api.Call{five, six, openSteal(3, 0)}, [][]int{{0, 2, 1}}},
		{"unfinished ones may be left out", 4, []api.Call{openPush(5, 0), openSteal(1, 0)}, [][]int{{}, {0}, {0, 1}}},
		{"an unfinished steal takes the oldest", 4, []api.Call{five, six, openSteal(1, 4), steal(2, 6, api.Got, 5, 6)}, [][]int{{0, 1, 2, 3}}},
		{"an unfinished pop takes the newest", 4, []api.Call{five, six, openPop(4), steal(2, 5, api.Got, 5, 6), steal(2, unseen, api.Empty, 7, 8)}, [][]int{{0, 1, 2, 3, 4}, {0, 1, 3, 2, 4}}},
		{"an unfinished pop of nothing", 4, []api.Call{openPop(0)}, [][]int{{}}},
		{"an unfinished push in a full one", 1, []api.Call{five, openPush(6, 2)}, [][]int{{0}}},
		{"an unfinished push is not ahead", 4, []api.Call{steal(1, 5, api.Got, 3, 6), openPush(5, 7)}, nil},
		{"an unfinished push is behind what had ended", 4, []api.Call{steal(1, unseen, api.Empty, 3, 6), openPush(5, 7)}, [][]int{{0}, {0, 1}}},
		{"lost", 4, []api.Call{steal(1, unseen, api.Lost, 0, 5)}, [][]int{{0}}},
		{"lost beside others", 4, []api.Call{five, steal(1, unseen, api.Lost, 0, 5)}, [][]int{{0, 1}, {1, 0}}},
		{"full", 1, []api.Call{five, push(6, api.Full, 2, 3)}, [][]int{{0, 1}}},
		{"not full", 2, []api.Call{five, push(6, api.Full, 2, 3)}, nil},
		{"full, but in", 1, []api.Call{five, six}, nil},
		{"full till stolen from", 1, []api.Call{five, six, steal(2, 5, api.Got, 2, 9)}, [][]int{{0, 2, 1}}},
		{"a full one lets nothing in", 1, []api.Call{five, push(6, api.Full, 2, 3), pop(5, api.Got, 4, 4), pop(unseen, api.Empty, 5, 5)}, [][]int{{0, 1, 2, 3}}},
		{"pop finds nothing", 4, []api.Call{pop(unseen, api.Empty, 0, 0)}, [][]int{{0}}},
		{"pop finds nothing, but something is there", 4, []api.Call{five, pop(unseen, api.Empty, 2, 2)}, nil},
		{"got out of nothing", 4, []api.Call{pop(0, api.Got, 0, 0)}, nil},
		{"stolen out of nothing", 4, []api.Call{steal(3, 0, api.Got, 0, 0)}, nil},
		{"stolen twice", 4, []api.Call{five, steal(1, 5, api.Got, 0, 9), steal(2, 5, api.Got, 0, 9)}, nil},
		{"pushed twice", 4, []api.Call{five, push(5, api.Pushed, 2, 3), steal(1, 5, api.Got, 4, 4), steal(2, 5, api.Got, 5, 5)}, [][]int{{0, 1, 2, 3}}},
		{"the list's order is not time's", 4, []api.Call{steal(3, 5, api.Got, 4, 4), five}, [][]int{{1, 0}}},
		{"late moments", api.MaxDeque, []api.Call{push(math.MinInt64, api.Pushed, 0, math.MaxInt-1), pop(math.MinInt64, api.Got, math.MaxInt, math.MaxInt)}, [][]int{{0, 1}}},
	} {
		isOrder := func(order []int) bool {
			return slices.ContainsFunc(c.orders, func(o []int) bool { return slices.Equal(o, order) })
		}
		order, err := hist.Order(c.calls, c.most)
		switch {
		case len(c.orders) == 0 && (err != api.ErrNone || len(order) > 0):
			t.Errorf("%s: %v, %d, want none", c.name, order, err)
		case len(c.orders) > 0 && (err != api.OK || !isOrder(order)):
			t.Errorf("%s: %v, %d, want one of %v", c.name, order, err, c.orders)
		}
		for order := range lists(len(c.calls)) {
			if got := hist.Legal(c.calls, c.most, order); got != isOrder(order) {
				t.Errorf("%s: Legal of %v is %v", c.name, order, got)
			}
		}
	}
}

// 4.1, 4.2: what is no history.
func TestNoHistory(t *testing.T) {
	five := push(5, api.Pushed, 0, 3)
	odd := func(c api.Call, change func(c *api.Call)) api.Call {
		change(&c)
		return c
	}
	for i, calls := range [][]api.Call{
		{odd(five, func(c *api.Call) { c.Who = -1 })},
		{odd(five, func(c *api.Call) { c.Who = 1 })},
		{odd(five, func(c *api.Call) { c.Who = 4 })},
		{odd(five, func(c *api.Call) { c.Who = math.MinInt })},
		{odd(five, func(c *api.Call) { c.Kind = -1 })},
		{odd(five, func(c *api.Call) { c.Kind = api.TFinish })},
		{odd(openPush(5, 0), func(c *api.Call) { c.Kind = api.TFinish })},
		{odd(openPush(5, 0), func(c *api.Call) { c.Kind = math.MaxInt })},
		{odd(openPush(5, 0), func(c *api.Call) { c.Who = 2 })},
		{odd(openPush(5, 0), func(c *api.Call) { c.Begin = -1 })},
		{odd(openPush(5, 0), func(c *api.Call) { c.End = 0 })},
		{odd(openPush(5, 0), func(c *api.Call) { c.End = -2 })},
		{odd(openPush(5, 0), func(c *api.Call) { c.Code = api.Pushed })},
		{odd(openPop(0), func(c *api.Call) { c.Who = 3 })},
		{steal(0, 0, api.Lost, 0, 0)}, {steal(4, 0, api.Lost, 0, 0)}, {steal(-1, 0, api.Lost, 0, 0)},
		{openSteal(0, 0)}, {openSteal(4, 0)}, {openSteal(1, math.MinInt)},
		{steal(1, 0, api.Lost, -1, 0)}, {steal(1, 0, api.Lost, 1, 0)}, {steal(1, 0, api.Lost, 0, -1)}, {steal(1, 0, api.Lost, -2, -1)}, {steal(1, 0, api.Lost, -2, -2)}, {steal(1, 0, api.Lost, 0, math.MinInt)},
		{steal(1, 0, api.Running, 0, 0)}, {steal(1, 0, -1, 0, 0)}, {steal(1, 0, api.Broken, 0, 0)}, {steal(1, 0, api.Pushed, 0, 0)}, {steal(1, 0, api.Full, 0, 0)}, {steal(1, 0, api.Some, 0, 0)},
		{pop(0, api.Running, 0, 0)}, {pop(0, api.Lost, 0, 0)}, {pop(0, api.Pushed, 0, 0)}, {pop(0, api.Full, 0, 0)}, {pop(0, api.Broken, 0, 0)},
		{push(0, api.Running, 0, 0)}, {push(0, api.Got, 0, 0)}, {push(0, api.Empty, 0, 0)}, {push(0, api.Lost, 0, 0)}, {push(0, api.Broken, 0, 0)},
		// calls of one actor
		{five, pop(5, api.Got, 2, 6)}, {five, pop(5, api.Got, 3, 6)}, {pop(0, api.Empty, 5, 6), five}, {openPush(5, 0), pop(5, api.Got, 3, 6)}, {openPush(5, 0), openPop(3)},
		{five, steal(2, 0, api.Lost, 0, 4), steal(1, 0, api.Lost, 1, 2), steal(2, 0, api.Lost, 4, 4)},
		{openSteal(3, 0), steal(1, 0, api.Lost, 1, 2), openSteal(3, 5)},
		{push(5, api.Pushed, 0, math.MaxInt), pop(5, api.Got, math.MaxInt, math.MaxInt)},
		{push(5, api.Pushed, 0, math.MaxInt), pop(5, api.Got, 4, 9)},
		{five, openPop(3)},
	} {
		if order, err := hist.Order(calls, 4); err != api.ErrCall || len(order) != 0 {
			t.Errorf("case %d: %v, %d", i, order, err)
		}
		for order := range lists(len(calls)) {
			if hist.Legal(calls, 4, order) {
				t.Errorf("case %d: %v is an order", i, order)
			}
		}
	}
}

// 4.1, 4.2: the bounds, and which refusal is ahead of which.
func TestBounds(t *testing.T) {
	lost := func(n int) []api.Call {
		var calls []api.Call
		for i := range n {
			calls = append(calls, steal(1, 0, api.Lost, i, i))
		}
		return calls
	}
	upTo := func(n int) []int {
		var order []int
		for i := range n {
			order = append(order, i)
		}
		return order
	}
	noHistory := []api.Call{steal(0, 0, api.Lost, 0, 0)}
	noOrder := []api.Call{pop(0, api.Got, 0, 0)}
	for i, c := range []struct {
		calls []api.Call
		most  int
		err   api.Errno
	}{
		{lost(40), 1, api.OK}, {lost(40), api.MaxDeque, api.OK}, {lost(41), 1, api.ErrLong},
		{make([]api.Call, 41), 0, api.ErrLong}, {make([]api.Call, 100), 4, api.ErrLong},
		{nil, 0, api.ErrArg}, {nil, api.MaxDeque + 1, api.ErrArg}, {nil, math.MinInt, api.ErrArg}, {nil, math.MaxInt, api.ErrArg},
		{noHistory, 0, api.ErrArg}, {noOrder, 0, api.ErrArg}, {append(noOrder, noHistory...), 1, api.ErrCall}, {noOrder, 1, api.ErrNone},
		{[]api.Call{}, 1, api.OK},
	} {
		order, err := hist.Order(c.calls, c.most)
		if err != c.err || err != api.OK && len(order) != 0 {
			t.Errorf("case %d: %v, %d, want %d", i, order, err, c.err)
		}
		if hist.Legal(c.calls, c.most, upTo(len(c.calls))) != (c.err == api.OK) {
			t.Errorf("case %d: Legal", i)
		}
	}
}

// 4.1: lists that are no orders of a history that has some.
func TestNoOrder(t *testing.T) {
	calls := []api.Call{push(5, api.Pushed, 0, 1), steal(1, 5, api.Got, 0, 9), openSteal(2, 3), openSteal(3, 3)}
	for _, order := range [][]int{
		nil, {0}, {1}, {1, 0}, {0, 1, 1}, {0, 0, 1}, {0, 1, -1}, {-1, 0, 1}, {0, 1, 4}, {4, 0, 1}, {0, 1, math.MaxInt}, {math.MinInt, 0, 1}, {0, 1, 2}, {0, 2, 1}, {0, 1, 2, 2}, {2, 0, 1}, {0, 1, 2, 3, 4}, make([]int, 1000),
	} {
		if hist.Legal(calls, 4, order) {
			t.Errorf("%v is no order", order)
		}
	}
	if !hist.Legal(calls, 4, []int{0, 1}) {
		t.Error("0 1 is an order")
	}
}

// 4.3: the examples, and calls that are no history.
func TestCut(t *testing.T) {
	calls := []api.Call{push(5, api.Pushed, 0, 1), pop(5, api.Got, 2, 3)}
	pushOpen, popOpen := calls[0], calls[1]
	pushOpen.End, pushOpen.Code, pushOpen.V = -1, api.Running, 0
	popOpen.End, popOpen.Code, popOpen.V = -1, api.Running, 0
	odd := []api.Call{
		{Who: 9, Kind: 8, Arg: 7, Begin: 6, End: 5, Code: 4, V: 3},
		{Who: -9, Kind: -8, Arg: -7, Begin: -6, End: -5, Code: -4, V: -3},
		{Who: 1, Kind: 2, Arg: 3, Begin: 6, End: -1, Code: 0, V: 3},
		{Who: 1, Kind: 2, Arg: 3, Begin: -9, End: -1, Code: 3, V: 4},
		{Who: 2, Kind: 2, Arg: 3, Begin: math.MinInt, End: math.MaxInt, Code: 3, V: 4},
	}
	late := odd[4]
	late.End, late.Code, late.V = -1, api.Running, 0
	third, first := odd[3], odd[1]
	third.Code, third.V = api.Running, 0
	first.End, first.Code, first.V = -1, api.Running, 0
	for _, c := range []struct {
		calls []api.Call
		pick  int
		want  []api.Call
	}{
		{calls, 4, calls}, {calls, math.MaxInt, calls}, {calls, 3, []api.Call{calls[0], popOpen}}, {calls, 2, calls[:1]}, {calls, 1, []api.Call{pushOpen}}, {calls, 0, nil}, {calls, -1, nil}, {calls, math.MinInt, nil},
		{nil, 3, nil}, {[]api.Call{}, 0, nil},
		{odd, 7, []api.Call{odd[0], odd[1], odd[2], odd[3], late}},
		{odd, 6, []api.Call{odd[1], odd[3], late}},
		{odd, 0, []api.Call{odd[1], odd[3], late}},
		{odd, -1, []api.Call{odd[1], third, late}},
		{odd, -5, []api.Call{first, third, late}},
		{odd, -6, []api.Call{third, late}},
		{odd, math.MinInt + 1, []api.Call{late}},
		{odd, math.MaxInt, []api.Call{odd[0], odd[1], odd[2], odd[3], late}},
		{odd, math.MinInt, nil},
	} {
		if got := hist.Cut(c.calls, c.pick); !slices.Equal(got, c.want) {
			t.Errorf("Cut of %v at %d: %v, want %v", c.calls, c.pick, got, c.want)
		}
	}
	if got := hist.Cut(make([]api.Call, 100000), 1); len(got) != 100000 {
		t.Errorf("%d of a long list", len(got))
	}
}

// 4.4: the example, both ends, and all that it may hold.
func TestSerial(t *testing.T) {
	const P, p, s = api.TPush, api.TPop, api.TSteal
	pushed := func(n int, v int64) api.Call { return api.Call{Kind: P, Arg: v, Begin: n, End: n, Code: api.Pushed} }
	for i, c := range []struct {
		todos []api.Todo
		most  int
		calls []api.Call
		rest  []int64
	}{
		{[]api.Todo{{Kind: P, V: 7}, {Kind: P, V: 8}, {Kind: s, V: 1}, {Kind: p, V: 1}, {Kind: p}, {Kind: s}}, 1, []api.Call{
			pushed(0, 7),
			{Kind: P, Arg: 8, Begin: 1, End: 1, Code: api.Full},
			{Who: 1, Kind: s, Begin: 2, End: 2, Code: api.Got, V: 7},
			{Kind: p, Begin: 3, End: 3, Code: api.Empty},
			{Kind: p, Begin: 4, End: 4, Code: api.Empty},
			{Who: 1, Kind: s, Begin: 5, End: 5, Code: api.Empty},
		}, nil},
		{[]api.Todo{{Kind: P, V: 7}, {Kind: P, V: 8}, {Kind: P, V: 9}, {Kind: P, V: 6}, {Kind: s}, {Kind: P, V: math.MinInt64}, {Kind: p}}, 3, []api.Call{
			pushed(0, 7), pushed(1, 8), pushed(2, 9),
			{Kind: P, Arg: 6, Begin: 3, End: 3, Code: api.Full},
			{Who: 1, Kind: s, Begin: 4, End: 4, Code: api.Got, V: 7},
			pushed(5, math.MinInt64),
			{Kind: p, Begin: 6, End: 6, Code: api.Got, V: math.MinInt64},
		}, []int64{8, 9}},
		{nil, api.MaxDeque, nil, nil},
	} {
		calls, rest, err := hist.Serial(c.todos, c.most)
		if err != api.OK || !slices.Equal(calls, c.calls) || !slices.Equal(rest, c.rest) {
			t.Errorf("case %d: %v, %v, %d, want %v, %v", i, calls, rest, err, c.calls, c.rest)
		}
	}
	if calls, rest, err := hist.Serial(make([]api.Todo, 40), 40); err != api.OK || len(calls) != 40 || len(rest) != 40 {
		t.Errorf("40 pushes: %v, %v, %d", calls, rest, err)
	}
	for i, c := range []struct {
		todos []api.Todo
		most  int
		err   api.Errno
	}{
		{make([]api.Todo, 41), 0, api.ErrLong}, {make([]api.Todo, 41), 1, api.ErrLong},
		{nil, 0, api.ErrArg}, {nil, api.MaxDeque + 1, api.ErrArg}, {nil, math.MinInt, api.ErrArg}, {[]api.Todo{{Kind: api.TFinish}}, 0, api.ErrArg},
		{[]api.Todo{{Kind: api.TFinish}}, 1, api.ErrTodo}, {[]api.Todo{{Kind: P}, {Kind: -1}}, 1, api.ErrTodo}, {[]api.Todo{{Kind: math.MaxInt}}, 1, api.ErrTodo},
	} {
		calls, rest, err := hist.Serial(c.todos, c.most)
		if err != c.err || len(calls) != 0 || len(rest) != 0 {
			t.Errorf("refusal %d: %v, %v, %d, want %d", i, calls, rest, err, c.err)
		}
	}
}

// R3: nothing that is handed in is changed, also behind its end, and what is handed out is new each time.
func TestMemory(t *testing.T) {
	room := []api.Call{push(5, api.Pushed, 0, 1), steal(1, 5, api.Got, 0, 9), openPop(7), {Who: 88}}
	calls, kept := room[:3], slices.Clone(room)
	order, _ := hist.Order(calls, 4)
	again, _ := hist.Order(calls, 4)
	order = append(order, 9)
	order[0] = 99
	if slices.Contains(again, 99) {
		t.Error("two orders share memory")
	}
	cut := hist.Cut(calls, 5)
	cut = append(cut, api.Call{})
	cut[0].Who = 99
	put := []int{0, 1, 2}
	hist.Legal(calls, 4, put[:2])
	if !slices.Equal(room, kept) || !slices.Equal(put, []int{0, 1, 2}) {
		t.Error("what was handed in has changed")
	}
	todos := []api.Todo{{Kind: api.TPush, V: 5}, {Kind: api.TPush, V: 6}, {Kind: api.TSteal, V: 3}}
	_, rest, _ := hist.Serial(todos[:2], 4)
	rest = append(rest, 9)
	rest[0] = 99
	made, other, _ := hist.Serial(todos[:2], 4)
	if other[0] != 5 || made[0].Arg != 5 || todos[0].V != 5 || todos[2].V != 3 {
		t.Error("Serial shares memory")
	}
}
