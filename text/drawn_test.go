package text_test

import (
	"math"
	"math/rand"
	"strings"

	"plunder/api"
	"plunder/ops"
)

// drawer draws trees, and texts for them.
type drawer struct{ *rand.Rand }

func newDrawer(seed int64) drawer { return drawer{rand.New(rand.NewSource(seed))} }

func (d drawer) of(list ...string) string { return list[d.Intn(len(list))] }

func (d drawer) name() string {
	if d.Intn(20) == 0 {
		return strings.Repeat(d.of("a", "Z", "_"), 24)
	}
	return d.of("a", "b", "x", "f", "g", "main", "_", "_9", "Fn", "LET", "iff", "f2", "whiles", "d0", "maximum")
}

func (d drawer) number() int64 {
	switch d.Intn(4) {
	case 0:
		return []int64{0, 1, -1, 9, 10, math.MaxInt64, -math.MaxInt64, math.MinInt64}[d.Intn(8)]
	case 1:
		return int64(d.Uint64()) >> d.Intn(64)
	}
	return int64(d.Intn(10))
}

// expr draws an expression in which so many are nested.
func (d drawer) expr(room int) api.Expr {
	if room <= 0 || d.Intn(6) == 0 {
		if d.Intn(2) == 0 {
			return num(d.number())
		}
		return name(d.name())
	}
	e := api.Expr{Kind: d.Intn(10)}
	kids := []int{0, 0, 1, 1, 2, d.Intn(4), 3, 2, 2, 2}[e.Kind]
	for range kids {
		e.Kids = append(e.Kids, d.expr(room-1-d.Intn(2)))
	}
	switch e.Kind {
	case api.ENumber:
		e.K = d.number()
	case api.EBinary:
		e.Op = d.Intn(api.NumOps)
	case api.EName, api.ECall, api.EReduce, api.EEach:
		e.Name = d.name()
	}
	if e.Kind == api.EReduce {
		e.Comb = d.name()
	}
	return e
}

// block draws statements in which so many are nested.
func (d drawer) block(room int) []api.Stmt {
	var body []api.Stmt
	for range d.Intn(4) {
		body = append(body, d.stmt(room))
	}
	return body
}

func (d drawer) stmt(room int) api.Stmt {
	s := api.Stmt{Kind: d.Intn(10)}
	if room <= 0 && (s.Kind == api.SIf || s.Kind == api.SWhile) {
		s.Kind = api.SDo
	}
	switch s.Kind {
	case api.SLet, api.SSet:
		s.Name, s.E = d.name(), d.expr(d.Intn(5))
	case api.SSpawn:
		s.Name, s.E = d.name(), call(d.name())
		for range d.Intn(3) {
			s.E.Kids = append(s.E.Kids, d.expr(d.Intn(4)))
		}
	case api.SDo, api.SReturn:
		s.E = d.expr(d.Intn(5))
	case api.SWhile:
		s.E, s.Body = d.expr(d.Intn(3)), d.block(room-1)
	case api.SIf:
		s.E, s.Body = d.expr(d.Intn(3)), d.block(room-1)
		if d.Intn(2) == 0 {
			s.Else = d.block(room - 1)
		}
	}
	return s
}

func (d drawer) source() api.Source {
	var s api.Source
	for range 1 + d.Intn(3) {
		f := api.Fn{Name: d.name(), Body: d.block(d.Intn(4))}
		for range d.Intn(4) {
			f.Params = append(f.Params, d.name())
		}
		s.Fns = append(s.Fns, f)
	}
	return s
}

// speller writes a tree as one of its many rows of words: with parentheses around all that has parts, and around much else.
type speller struct {
	drawer
	words []string
}

func (w *speller) put(words ...string) { w.words = append(w.words, words...) }

func (w *speller) source(s api.Source) []string {
	for _, f := range s.Fns {
		w.put("fn", f.Name, "(")
		for i, p := range f.Params {
			if i > 0 {
				w.put(",")
			}
			w.put(p)
		}
		w.put(")")
		w.block(f.Body)
	}
	return w.words
}

func (w *speller) block(body []api.Stmt) {
	w.put("{")
	for _, s := range body {
		w.stmt(s)
	}
	w.put("}")
}

func (w *speller) stmt(s api.Stmt) {
	switch s.Kind {
	case api.SLet:
		w.put("let", s.Name, "=")
	case api.SSet:
		w.put(s.Name, "=")
	case api.SSpawn:
		w.put("spawn", s.Name, "=", s.E.Name)
		w.list(nil, s.E.Kids)
	default:
		w.put([]string{api.SSync: "sync", api.SIf: "if", api.SWhile: "while", api.SDo: "do", api.SReturn: "return", api.SBreak: "break", api.SContinue: "continue"}[s.Kind])
	}
	switch s.Kind {
	case api.SLet, api.SSet, api.SIf, api.SWhile, api.SDo, api.SReturn:
		w.expr(s.E)
	}
	switch s.Kind {
	case api.SIf:
		w.block(s.Body)
		w.other(s.Else)
	case api.SWhile:
		w.block(s.Body)
	default:
		w.put(";")
	}
}

func (w *speller) other(body []api.Stmt) {
	switch {
	case len(body) == 0 && w.Intn(2) == 0:
	case len(body) == 1 && body[0].Kind == api.SIf && w.Intn(2) == 0:
		w.put("else")
		w.stmt(body[0])
	default:
		w.put("else")
		w.block(body)
	}
}

func (w *speller) list(names []string, kids []api.Expr) {
	w.put("(")
	for i, n := range names {
		if i > 0 {
			w.put(",")
		}
		w.put(n)
	}
	for i, kid := range kids {
		if i+len(names) > 0 {
			w.put(",")
		}
		w.expr(kid)
	}
	w.put(")")
}

// expr writes an expression, sometimes with parentheses that are not needed.
func (w *speller) expr(e api.Expr) {
	if w.Intn(8) == 0 {
		w.operand(e)
		return
	}
	w.bare(e)
}

// operand writes an expression in parentheses.
func (w *speller) operand(e api.Expr) {
	w.put("(")
	w.expr(e)
	w.put(")")
}

func (w *speller) bare(e api.Expr) {
	switch e.Kind {
	case api.ENumber:
		digits, below := strings.CutPrefix(ops.Format(e.K), "-")
		if below || e.K == 0 && w.Intn(2) == 0 {
			w.put("-")
		}
		w.put(digits)
	case api.EName:
		w.put(e.Name)
	case api.ENeg:
		w.put("-")
		w.operand(e.Kids[0])
	case api.ENot:
		w.put("!")
		w.operand(e.Kids[0])
	case api.ECall:
		w.put(e.Name)
		w.list(nil, e.Kids)
	case api.EReduce:
		w.put("reduce")
		w.list([]string{e.Name, e.Comb}, e.Kids)
	case api.EEach:
		w.put("each")
		w.list([]string{e.Name}, e.Kids)
	default:
		w.binary(e)
	}
}

func (w *speller) binary(e api.Expr) {
	sign := ops.Name(e.Op)
	switch {
	case e.Kind == api.EAnd:
		sign = "&&"
	case e.Kind == api.EOr:
		sign = "||"
	case e.Op == api.Min || e.Op == api.Max:
		w.put(sign)
		w.list(nil, e.Kids)
		return
	}
	w.operand(e.Kids[0])
	w.put(sign)
	w.operand(e.Kids[1])
}

// spell draws a row of words for a tree.
func (d drawer) spell(s api.Source) []string {
	w := speller{drawer: d}
	return w.source(s)
}

// blank draws what may stand behind a word. Directly behind a slash no comment can begin.
func (d drawer) blank(word string) string {
	if word == "/" {
		return d.of(" ", "\t\r", "\n", " // / fn\n")
	}
	return d.of(" ", "  ", "\t", "\n", "\r", "\r\n", " // fn ( { # \"\n", "//\n", "///\xff\x00 \u00e9 */\r\n\t", "// x // y\n // z\n")
}

// join writes words as a text, with nothing between two of them where that does no harm.
func (d drawer) join(words []string) string {
	var b strings.Builder
	for i, w := range words {
		if i > 0 && (d.Intn(3) == 0 || merge(words[i-1], w)) {
			b.WriteString(d.blank(words[i-1]))
		}
		b.WriteString(w)
	}
	return b.String()
}

// merge tells whether two words are other ones if nothing stands between.
func merge(a, b string) bool {
	words := modelWords(a + b)
	return len(words) != 3 || words[0].text != a || words[1].text != b
}

// alphabet has a word of each kind, all keywords and all signs.
var alphabet = append(append([]string{"x", "0", "7"}, keyNames...), signNames...)

// wrongWords are wrong by themselves somewhere.
var wrongWords = []string{"#", ">", "\"", "\xff", "\x00", "007", "00", "9223372036854775808", "9223372036854775809", strings.Repeat("9", 40), strings.Repeat("n", 25), "\u00e9", "$", "'", "[", ".", ":", "~", "@", "\\", "?"}

// spoil changes some words of a row.
func (d drawer) spoil(words []string) []string {
	words = append([]string(nil), words...)
	for range 1 + d.Intn(2) {
		at := d.Intn(len(words) + 1)
		word := alphabet[d.Intn(len(alphabet))]
		if d.Intn(4) == 0 {
			word = wrongWords[d.Intn(len(wrongWords))]
		}
		end := at
		if d.Intn(2) == 0 {
			end = min(len(words), at+1+d.Intn(2))
		}
		put := []string{word}
		if d.Intn(3) == 0 {
			put = nil
		}
		words = append(words[:at:at], append(put, words[end:]...)...)
	}
	return words
}

// spoilBytes changes some bytes of a text.
func (d drawer) spoilBytes(src string) string {
	for range 1 + d.Intn(3) {
		at := d.Intn(len(src) + 1)
		end := min(len(src), at+d.Intn(3))
		put := d.of("", "", string([]byte{byte(d.Intn(256))}), d.of("/", "//", "\n", "(", ")", "{", "}", ";", "-", "!", "=", "0", "9", "a", " "))
		src = src[:at] + put + src[end:]
	}
	return src
}
