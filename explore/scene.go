package explore

import "plunder/api"

// move is an act, and whose it is.
type move struct {
	who int
	act api.Act
}

// actsOf tells how many acts all actors have together.
func actsOf(s api.Scene) int {
	n := 0
	for _, list := range s.Lists {
		n += len(list)
	}
	return n
}

// movesOf tells what is done by a script, in its order, or why it is none.
func movesOf(s api.Scene, picks []int) ([]move, api.Errno) {
	if err := Check(s); err != api.OK {
		return nil, err
	}
	var moves []move
	done := make([]int, len(s.Lists))
	for _, who := range picks {
		if who < 0 || who >= len(s.Lists) || done[who] == len(s.Lists[who]) {
			return nil, api.ErrOrder
		}
		moves = append(moves, move{who, s.Lists[who][done[who]]})
		done[who]++
	}
	if len(moves) < actsOf(s) {
		return nil, api.ErrOrder
	}
	return moves, api.OK
}

// beginning is the acts that lay a scene's first cells into an empty arena.
func beginning(s api.Scene) []api.Act {
	row := []api.Act{{Kind: api.AcReserve, A: int64(len(s.Begin))}} // refused where there is nothing to be laid, which changes nothing
	for addr, v := range s.Begin {
		row = append(row, api.Act{Kind: api.AcStore, Addr: addr, A: v})
	}
	return row
}

func touches(s api.Scene, a api.Act) bool {
	switch a.Kind {
	case api.AcLoad, api.AcStore, api.AcCAS, api.AcAdd:
		return 0 <= a.Addr && a.Addr < s.Size
	}
	return false
}

// grows tells whether an act may raise the mark.
func grows(a api.Act) bool { return a.Kind == api.AcReserve && a.A >= 1 }

// mayBeFresh tells whether an act touches a cell that is in use only once somebody reserves it.
func mayBeFresh(s api.Scene, a api.Act) bool { return touches(s, a) && a.Addr >= len(s.Begin) }

func clash(s api.Scene, x, y api.Act) bool {
	bothLook := x.Kind == api.AcLoad && y.Kind == api.AcLoad
	return touches(s, x) && touches(s, y) && x.Addr == y.Addr && !bothLook
}
