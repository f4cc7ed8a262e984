package spy

import "iter"

// Routine is an actor of a model. It is written from its beginning to its end, and waits for a pick ahead of each access.
type Routine struct {
	next func() (struct{}, bool)
	stop func()
}

// stopped is what a routine that will not be picked any more is left by.
type stopped struct{}

// Begin takes a routine to its first wait.
func Begin(plays func(wait func())) *Routine {
	r := &Routine{}
	r.next, r.stop = iter.Pull(func(yield func(struct{}) bool) {
		defer func() {
			if x := recover(); x != nil && x != (stopped{}) {
				panic(x)
			}
		}()
		plays(func() {
			if !yield(struct{}{}) {
				panic(stopped{})
			}
		})
	})
	r.next()
	return r
}

// Pick takes it to its next wait. It tells false if there is none: the routine has ended.
func (r *Routine) Pick() bool {
	_, goesOn := r.next()
	return goesOn
}

// Stop leaves it where it stands.
func (r *Routine) Stop() { r.stop() }

// Picks draws so many picks, in bursts, so that some actors get far ahead of the others. Most are around 0, some are of any size.
func Picks(intn func(int) int, n, actors int) []int {
	picks := make([]int, 0, n)
	longest := 1 + intn(8)
	for len(picks) < n {
		x := intn(3*actors) - actors
		if intn(9) == 0 {
			x = intn(1<<62) * (1 - 2*intn(2))
		}
		for range min(1+intn(longest), n-len(picks)) {
			picks = append(picks, x)
		}
	}
	return picks
}
