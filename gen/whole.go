package gen

import "plunder/api"

// whole is what the functions of a source have in common while they are compiled.
type whole struct {
	numbers map[string]int // the source's functions by their names
	ranges  map[names]int  // the added functions, by what they are for
	added   []api.Func
}

// names are those of a reduce, or of an each, which has no combining function.
type names struct{ body, comb string }

func newWhole(s api.Source) *whole {
	w := whole{numbers: map[string]int{}, ranges: map[names]int{}}
	for f, fn := range s.Fns {
		w.numbers[fn.Name] = f
	}
	return &w
}

// forRanges tells the number of the function for the ranges of a reduce or an each, and adds it if there is none.
func (w *whole) forRanges(e api.Expr) int {
	of := names{e.Name, e.Comb}
	number, found := w.ranges[of]
	if !found {
		number = len(w.numbers) + len(w.added)
		w.ranges[of] = number
		w.added = append(w.added, w.rangeFunc(e, number))
	}
	return number
}
