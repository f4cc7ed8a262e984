package script_test

import (
	"math/big"
	"regexp"
	"slices"

	"plunder/api"
)

// The tokens and the numbers of a script's text, by the chapter's words.
var (
	tokenForm  = regexp.MustCompile(`[a-z0-9-]+|[^ \t\n]`)
	numberForm = regexp.MustCompile(`^(0|-?[1-9][0-9]*)$`)
)

// part is a number, or a group of parts, so many times over.
type part struct {
	number int
	group  []*part
	times  int
}

// What came last in a list or group.
const (
	nothing = iota
	unit
	star
	counted
)

// wordsDecoder reads tokens without any recursion: it asks of each one whether it may stand behind what was read so far.
type wordsDecoder struct {
	lists [2]part // picks and draws
	begun int     // how many of them have begun
	open  []*part // the list that is read, and the groups that are open in it
	last  int
}

func (d *wordsDecoder) innermost() *part { return d.open[len(d.open)-1] }

// begin begins the next list.
func (d *wordsDecoder) begin() bool {
	d.open, d.last = []*part{&d.lists[d.begun]}, nothing
	d.begun++
	return true
}

// put lays a part into what is open.
func (d *wordsDecoder) put(p *part) {
	p.times = 1
	in := d.innermost()
	in.group = append(in.group, p)
	d.last = unit
}

// take tells whether a token may stand here.
func (d *wordsDecoder) take(token string) bool {
	if d.begun == 0 {
		return token == "picks" && d.begin()
	}
	n, isNumber := wordsNumber(token)
	switch {
	case d.last == star:
		if !isNumber || n < 1 || n > 1048576 {
			return false
		}
		in := d.innermost()
		in.group[len(in.group)-1].times = n
		d.last = counted
		return true
	case isNumber:
		d.put(&part{number: n})
		return true
	}
	switch token {
	case "(":
		p := &part{}
		d.put(p)
		d.open, d.last = append(d.open, p), nothing
		return len(d.open) <= 1+8
	case ")":
		if len(d.open) == 1 || d.last == nothing {
			return false
		}
		d.open, d.last = d.open[:len(d.open)-1], unit
		return true
	case "*":
		may := d.last == unit
		d.last = star
		return may
	case "draws":
		return d.begun == 1 && len(d.open) == 1 && d.begin()
	}
	return false
}

func (d *wordsDecoder) mayEnd() bool { return d.begun == 2 && len(d.open) == 1 && d.last != star }

func wordsNumber(token string) (int, bool) {
	if !numberForm.MatchString(token) {
		return 0, false
	}
	n, _ := new(big.Int).SetString(token, 10)
	return int(n.Int64()), n.IsInt64()
}

// size tells how many numbers a group's parts come to, once.
func size(group []*part) *big.Int {
	sum := new(big.Int)
	for _, p := range group {
		n := big.NewInt(1)
		if p.group != nil {
			n = size(p.group)
		}
		sum.Add(sum, n.Mul(n, big.NewInt(int64(p.times))))
	}
	return sum
}

func numbers(group []*part) []int {
	var list []int
	for _, p := range group {
		once := []int{p.number}
		if p.group != nil {
			once = numbers(p.group)
		}
		list = append(list, slices.Repeat(once, p.times)...)
	}
	return list
}

// wordsDecode is 10.6 by its words.
func wordsDecode(text string) (api.Script, api.Spot) {
	if len(text) > 65536 {
		return api.Script{}, api.Spot{Err: api.ErrLong}
	}
	var d wordsDecoder
	for _, at := range tokenForm.FindAllStringIndex(text, -1) {
		if !d.take(text[at[0]:at[1]]) {
			return api.Script{}, api.Spot{Err: api.ErrScript, At: at[0]}
		}
	}
	if !d.mayEnd() {
		return api.Script{}, api.Spot{Err: api.ErrScript, At: len(text)}
	}
	for _, l := range d.lists {
		if size(l.group).Cmp(big.NewInt(1048576)) > 0 {
			return api.Script{}, api.Spot{Err: api.ErrLong}
		}
	}
	return api.Script{Picks: numbers(d.lists[0].group), Draws: numbers(d.lists[1].group)}, api.Spot{}
}
