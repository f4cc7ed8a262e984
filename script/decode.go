package script

import (
	"plunder/api"
	"plunder/ops"
)

// The words of a script's text.
const (
	wordPicks = "picks"
	wordDraws = "draws"
)

// maxOpen is how many groups may be open at a time.
const maxOpen = 8

// Decode tells a text's script.
func Decode(text string) (s api.Script, spot api.Spot) {
	defer func() { spot = caught(recover()) }()
	if len(text) > api.MaxScript {
		giveUp(api.ErrLong, 0)
	}
	picks, draws := parse(text)
	if picks.long || draws.long {
		giveUp(api.ErrLong, 0)
	}
	return api.Script{Picks: picks.numbers, Draws: draws.numbers}, api.Spot{}
}

// giveUp leaves whatever is going on, however many groups are open; Decode catches the spot.
func giveUp(err api.Errno, at int) { panic(api.Spot{Err: err, At: at}) }

// caught tells the spot that somebody gave up with. Any other panic is a mistake of this package, and must not pass for an answer.
func caught(thrown any) api.Spot {
	if thrown == nil {
		return api.Spot{}
	}
	spot, ok := thrown.(api.Spot)
	if !ok {
		panic(thrown)
	}
	return spot
}

// parse goes through the whole text even where a list comes to be too long: a fault in the form goes ahead of that.
func parse(text string) (picks, draws list) {
	r := reader{text: text}
	r.next()
	r.take(wordPicks)
	r.items(&picks, 0)
	r.take(wordDraws)
	r.items(&draws, 0)
	r.take("")
	return picks, draws
}

// items reads as many items into a list as there are, within so many open groups, and tells their number.
func (r *reader) items(l *list, open int) int {
	n := 0
	for r.item(l, open) {
		n++
	}
	return n
}

// item reads an item, if one begins here.
func (r *reader) item(l *list, open int) bool {
	start := len(l.numbers)
	if !r.unit(l, open) {
		return false
	}
	if r.token() == "*" {
		r.next()
		l.repeat(start, r.count())
	}
	return true
}

// unit reads a unit, if one begins here.
func (r *reader) unit(l *list, open int) bool {
	if r.token() == "(" {
		r.group(l, open)
		return true
	}
	x, err := ops.Parse(r.token())
	if err != api.OK {
		return false
	}
	r.next()
	l.add(int(x))
	return true
}

// group reads a group, which begins here, within so many others.
func (r *reader) group(l *list, open int) {
	if open == maxOpen {
		r.refuse()
	}
	r.next()
	if r.items(l, open+1) == 0 {
		r.refuse()
	}
	r.take(")")
}

// count reads a count, which has to be here.
func (r *reader) count() int {
	n, err := ops.Parse(r.token())
	if err != api.OK || n < 1 || n > api.MaxPicks {
		r.refuse()
	}
	r.next()
	return int(n)
}
