package text

import (
	"math"
	"strings"

	"plunder/api"
)

// reader goes through a text's words from the left. All words ahead of the one that it has come to may stand where they stand, and that one is not wrong by itself.
type reader struct {
	text    string
	at, end int   // where the word that it has come to begins and ends
	kind    int   // of that word
	minus   int64 // minus that number, if it is one

	finish bool     // whether words that lack at the text's end are added
	added  []string // these
}

// word tells the word that the reader has come to: "" is the text's end, and nothing else.
func (r *reader) word() string { return r.text[r.at:r.end] }

// pass goes on to the next word.
func (r *reader) pass() { r.next(-math.MaxInt64) }

// passMinus goes on to the next word, which stands directly behind a unary minus.
func (r *reader) passMinus() { r.next(math.MinInt64) }

// next goes on to the next word. If that is a number, minus it has to be at least this one.
func (r *reader) next(least int64) {
	r.at = r.end + blanks(r.text[r.end:])
	kind, length := firstWord(r.text[r.at:])
	r.kind, r.end = kind, r.at+length
	switch kind {
	case wordNone:
		r.giveUp(api.ErrByte)
	case wordName:
		if length > api.MaxName {
			r.giveUp(api.ErrName)
		}
	case wordNumber:
		minus, ok := negated(r.word())
		if !ok || minus < least {
			r.giveUp(api.ErrLiteral)
		}
		r.minus = minus
	}
}

// giveUp leaves whatever is being read: the word is wrong.
func (r *reader) giveUp(err api.Errno) {
	panic(gaveUp{word: r.word(), err: fault{api.Spot{Err: err, At: r.at}}})
}

// allow gives up at a word behind which it is too deep.
func (r *reader) allow(depth int) {
	if depth > api.MaxNest {
		r.giveUp(api.ErrNest)
	}
}

// add adds a word that lacks at the text's end. Elsewhere, or if the text is not to be finished, what stands in that word's place is wrong.
func (r *reader) add(word string) {
	if r.kind != wordEnd || !r.finish {
		r.giveUp(api.ErrSyntax)
	}
	r.added = append(r.added, word)
}

// take goes on behind a keyword or a sign that has to be here.
func (r *reader) take(word string) {
	if r.word() != word {
		r.add(word)
		return
	}
	r.pass()
}

// name goes on behind a name that has to be here. What it tells is a copy, since a piece of the text would keep all of it.
func (r *reader) name() string {
	if r.kind != wordName {
		r.add("x")
		return "x"
	}
	name := strings.Clone(r.word())
	r.pass()
	return name
}

// number goes on behind a number that has to be here, and that stands for k.
func (r *reader) number(k int64) api.Expr {
	if r.kind != wordNumber {
		r.add("0")
		return api.Expr{Kind: api.ENumber}
	}
	r.pass()
	return api.Expr{Kind: api.ENumber, K: k}
}
