package script

import (
	"strings"

	"plunder/api"
)

// reader goes through a script's text, token by token. The token that it has come to goes from at to end; at the text's end it is empty, as no other is.
type reader struct {
	text    string
	at, end int
}

// next goes on to the next token.
func (r *reader) next() {
	r.at = r.end
	for r.at < len(r.text) && strings.IndexByte(" \t\n", r.text[r.at]) >= 0 {
		r.at++
	}
	r.end = r.at
	for r.end < len(r.text) && inWord(r.text[r.end]) {
		r.end++
	}
	if r.end == r.at && r.at < len(r.text) { // a byte that is a token by itself, one that may stand nowhere too
		r.end++
	}
}

func inWord(b byte) bool {
	return 'a' <= b && b <= 'z' || '0' <= b && b <= '9' || b == '-'
}

func (r *reader) token() string { return r.text[r.at:r.end] }

// take goes on behind a token that has to be here.
func (r *reader) take(token string) {
	if r.token() != token {
		r.refuse()
	}
	r.next()
}

// refuse gives up at the token that the reader has come to.
func (r *reader) refuse() { giveUp(api.ErrScript, r.at) }
