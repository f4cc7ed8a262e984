package hist

import "plunder/api"

// counts tells how many calls of each actor are done. What the plain deque holds behind them hangs on that alone, so this is all that a state has to be known by.
type counts [actors]int

// state is a way that the search can go on from.
type state struct {
	done counts
	d    plain
}

// search has the states that were met, each with the number of the call that led to it, so that the way to a state can be told backwards.
type search struct {
	calls []api.Call
	made  rows
	met   map[counts]int
	todo  []state
}

// Order tells an order in which a sequential deque allows the calls.
func Order(calls []api.Call, most int) ([]int, api.Errno) {
	made, err := sorted(calls, most)
	if err != api.OK {
		return nil, err
	}
	s := search{calls: calls, made: made, met: map[counts]int{}}
	s.meet(state{d: plain{most: most}}, -1)
	for len(s.todo) > 0 {
		last := len(s.todo) - 1
		at := s.todo[last]
		s.todo = s.todo[:last]
		if s.through(at.done) {
			return s.way(at.done), api.OK
		}
		s.goOn(at)
	}
	return nil, api.ErrNone
}

func (s *search) meet(to state, by int) {
	s.met[to.done] = by
	s.todo = append(s.todo, to)
}

// goOn meets the states that are one call behind a state and have not been met.
func (s *search) goOn(at state) {
	for who := range actors {
		n, some := s.next(at.done, who)
		if !some || !s.inTime(at.done, s.calls[n]) {
			continue
		}
		done := at.done
		done[who]++
		if _, known := s.met[done]; known {
			continue
		}
		if d := at.d.copied(); d.allows(s.calls[n]) {
			s.meet(state{done: done, d: d}, n)
		}
	}
}

// next tells the number of an actor's first call that is not done, if there is one.
func (s *search) next(done counts, who int) (int, bool) {
	own := s.made[who]
	if done[who] == len(own) {
		return 0, false
	}
	return own[done[who]], true
}

// inTime tells whether a call may be laid behind those that are done: none of the others had ended when it began. An actor's first call is the first of its calls to end, so the others need not be looked at.
func (s *search) inTime(done counts, c api.Call) bool {
	for who := range actors {
		if n, some := s.next(done, who); some && ahead(s.calls[n], c) {
			return false
		}
	}
	return true
}

// through tells whether all calls that have ended are done. One that has not ended is its actor's last.
func (s *search) through(done counts) bool {
	for who := range actors {
		if n, some := s.next(done, who); some && ended(s.calls[n]) {
			return false
		}
	}
	return true
}

// way tells the calls that led to a state, the first of them first.
func (s *search) way(done counts) []int {
	length := 0
	for _, n := range done {
		length += n
	}
	order := make([]int, length)
	for i := length - 1; i >= 0; i-- {
		order[i] = s.met[done]
		done[s.calls[order[i]].Who]--
	}
	return order
}
