package buffers

import (
	"slices"
	"strconv"

	"plunder/api"
)

// Weak tells a script whose outcome no interleaving without waiting stores has, if there is one.
func Weak(size int, lists [][]api.Act) ([]int, bool, api.Errno) {
	if err := weakFault(size, lists); err != api.OK {
		return nil, false, err
	}
	plain := map[string]struct{}{}
	search(size, lists, promptMoves(len(lists)), func(outcome string) bool {
		plain[outcome] = struct{}{}
		return false
	})
	picks := search(size, lists, allMoves(len(lists)), func(outcome string) bool {
		_, met := plain[outcome]
		return !met
	})
	return picks, picks != nil, api.OK
}

func weakFault(size int, lists [][]api.Act) api.Errno {
	if size < 0 || size > api.WeakCells {
		return api.ErrArg
	}
	if len(lists) < 1 || len(lists) > api.WeakActors {
		return api.ErrView
	}
	acts := 0
	for _, list := range lists {
		acts += len(list)
	}
	if acts > api.MaxWeak {
		return api.ErrLong
	}
	for _, act := range slices.Concat(lists...) {
		if err := actFault(size, act); err != api.OK {
			return err
		}
	}
	return api.OK
}

func actFault(size int, act api.Act) api.Errno {
	switch act.Kind {
	case api.AcFence:
		return api.OK
	case api.AcLoad, api.AcStore, api.AcCAS, api.AcAdd:
		if act.Addr < 0 || act.Addr >= size {
			return api.ErrAddr
		}
		return api.OK
	}
	return api.ErrAct
}

// promptMoves are those of plays on plain cells: where each act is flushed at once it is as if no store had waited.
func promptMoves(actors int) [][]int {
	moves := make([][]int, actors)
	for who := range moves {
		moves[who] = []int{who, actors + who}
	}
	return moves
}

// allMoves are single picks.
func allMoves(actors int) [][]int {
	moves := make([][]int, 2*actors)
	for x := range moves {
		moves[x] = []int{x}
	}
	return moves
}

// search goes through all plays that are made of such moves, the short ones first, until one is done whose outcome is wanted: its picks, or nil if there is none. Of plays that stand alike only one goes on: what comes of them is the same. (So none of the picks that are found idles: they are at most one for each act and one for each store.)
func search(size int, lists [][]api.Act, moves [][]int, wanted func(outcome string) bool) []int {
	var found []int
	met := map[string]struct{}{}
	plays := [][]int{nil}
lengths:
	for len(plays) > 0 {
		var longer [][]int
		for _, picks := range plays {
			for _, move := range moves {
				next := slices.Concat(picks, move)
				r, _ := Play(size, size, api.MaxRoom, lists, next)
				standing := text(r)
				if _, known := met[standing]; known {
					continue
				}
				if r.Done && wanted(standing) {
					found = next
					break lengths
				}
				met[standing] = struct{}{}
				longer = append(longer, next)
			}
		}
		plays = longer
	}
	return found
}

// text tells how a play stands, all of whose acts are for cells in use. How many stores wait says which: the last ones that were made. So for plays that are done it tells the outcome.
func text(r api.BufferRun) string {
	var b []byte
	put := func(v int64) { b = append(strconv.AppendInt(b, v, 10), ' ') }
	for k, effects := range r.Effects {
		for _, e := range effects {
			put(e.V)
			if e.OK {
				b = append(b, '+')
			}
		}
		put(int64(len(r.Waiting[k])))
		b = append(b, ';')
	}
	for _, v := range r.Cells {
		put(v)
	}
	return string(b)
}
