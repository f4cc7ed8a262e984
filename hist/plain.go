package hist

import "plunder/api"

// plain is a deque that does one call after the other.
type plain struct {
	most int
	held []int64 // the oldest first
}

// copied tells a deque that holds the same in memory of its own, so that one state can go on in several ways.
func (d plain) copied() plain {
	held := make([]int64, len(d.held))
	copy(held, d.held)
	return plain{most: d.most, held: held}
}

func (d *plain) push(v int64) int {
	if len(d.held) >= d.most {
		return api.Full
	}
	d.held = append(d.held, v)
	return api.Pushed
}

func (d *plain) pop() (code int, v int64) {
	if len(d.held) == 0 {
		return api.Empty, 0
	}
	newest := len(d.held) - 1
	v = d.held[newest]
	d.held = d.held[:newest]
	return api.Got, v
}

func (d *plain) steal() (code int, v int64) {
	if len(d.held) == 0 {
		return api.Empty, 0
	}
	v = d.held[0]
	d.held = d.held[1:]
	return api.Got, v
}

// answer does a call of a kind that there is.
func (d *plain) answer(kind int, arg int64) (code int, v int64) {
	switch kind {
	case api.TPush:
		return d.push(arg), 0
	case api.TPop:
		return d.pop()
	default:
		return d.steal()
	}
}

// allows does a call of a history and tells whether it is allowed: whether this deque answers what the history says. Behind a call that it does not allow it is of no more use.
func (d *plain) allows(c api.Call) bool {
	if c.Code == api.Lost {
		return true
	}
	code, v := d.answer(c.Kind, c.Arg)
	switch c.Code {
	case api.Running: // it is told in an order only if it has had an effect
		return code == api.Pushed || code == api.Got
	case api.Got:
		return code == api.Got && v == c.V
	default:
		return code == c.Code
	}
}

// Serial plays todos on a sequential deque.
func Serial(todos []api.Todo, most int) ([]api.Call, []int64, api.Errno) {
	if err := serialFault(todos, most); err != api.OK {
		return nil, nil, err
	}
	d := plain{most: most}
	calls := make([]api.Call, 0, len(todos))
	for n, todo := range todos {
		c := api.Call{Kind: todo.Kind, Begin: n, End: n}
		switch todo.Kind {
		case api.TPush:
			c.Arg = todo.V
		case api.TSteal:
			c.Who = 1
		}
		c.Code, c.V = d.answer(c.Kind, c.Arg)
		calls = append(calls, c)
	}
	return calls, d.held, api.OK
}

func serialFault(todos []api.Todo, most int) api.Errno {
	switch {
	case len(todos) > api.MaxCalls:
		return api.ErrLong
	case !mostFits(most):
		return api.ErrArg
	}
	for _, todo := range todos {
		switch todo.Kind {
		case api.TPush, api.TPop, api.TSteal:
		default:
			return api.ErrTodo
		}
	}
	return api.OK
}
