package text_test

import (
	"math/big"
	"regexp"
	"slices"
	"strings"

	"plunder/api"
	"plunder/ops"
)

// A model of the chapter's words: words are told by patterns, which of them may stand where by the grammar as it is written there, depths by a walk over the words, and trees by looking for the loosest sign.

// The kinds of the model's words: a name, a keyword, a number, a sign, the end, and a byte that begins none.
const (
	nameWord, keyWord, numberWord, signWord, endWord, noWord = 'n', 'k', '0', 's', '$', '?'
)

type modelWord struct {
	kind byte
	text string
	at   int
}

var keyNames = strings.Fields("fn let spawn sync if else while do return break continue min max reduce each")

var signNames = strings.Fields("( ) { } , ; = + - * / % & | ^ << >> < <= == != ! && ||")

var (
	blankPattern  = regexp.MustCompile(`^(?:[ \t\n\r]|//[^\n]*)*`)
	namePattern   = regexp.MustCompile(`^[A-Za-z_][A-Za-z_0-9]*`)
	numberPattern = regexp.MustCompile(`^[0-9]+`)
	signPattern   = regexp.MustCompile(`^(?:<<|>>|<=|==|!=|&&|\|\||[(){},;=+\-*/%&|^<!])`)
)

// modelWords tells the words of a text; the last one is its end, or a byte that begins no word.
func modelWords(src string) []modelWord {
	var words []modelWord
	at := 0
	for {
		at += len(blankPattern.FindString(src[at:]))
		w := modelWord{kind: noWord, at: at}
		if at == len(src) {
			w.kind = endWord
		} else if w.text = namePattern.FindString(src[at:]); w.text != "" {
			w.kind = nameWord
			if slices.Contains(keyNames, w.text) {
				w.kind = keyWord
			}
		} else if w.text = numberPattern.FindString(src[at:]); w.text != "" {
			w.kind = numberWord
		} else if w.text = signPattern.FindString(src[at:]); w.text != "" {
			w.kind = signWord
		}
		words = append(words, w)
		if w.text == "" {
			return words
		}
		at += len(w.text)
	}
}

// The grammar, as the chapter has it.
const grammarText = `
source = function { function }
function = "fn" name "(" [ name { "," name } ] ")" block
block = "{" { stmt } "}"
stmt = "let" name "=" expr ";" | name "=" expr ";" | "spawn" name "=" name "(" [ expr { "," expr } ] ")" ";" | "sync" ";" | ifstmt | "while" expr block | "do" expr ";" | "return" expr ";" | "break" ";" | "continue" ";"
ifstmt = "if" expr block [ "else" ( block | ifstmt ) ]
expr = two { "||" two }
two = three { "&&" three }
three = four { ( "==" | "!=" | "<" | "<=" ) four }
four = five { ( "|" | "^" ) five }
five = six { "&" six }
six = seven { ( "<<" | ">>" ) seven }
seven = eight { ( "+" | "-" ) eight }
eight = unary { ( "*" | "/" | "%" ) unary }
unary = "-" unary | "!" unary | primary
primary = number | name | name "(" [ expr { "," expr } ] ")" | "min" "(" expr "," expr ")" | "max" "(" expr "," expr ")" | "reduce" "(" name "," name "," expr "," expr "," expr ")" | "each" "(" name "," expr "," expr ")" | "(" expr ")"
`

// term is a part of the grammar: a word ('w'), a rule's name ('r'), one behind the other ('.'), one of several ('|'), any number of times ('*'), or perhaps ('?').
type term struct {
	kind byte
	text string
	kids []*term
}

var grammar = readGrammar(grammarText)

func readGrammar(text string) map[string]*term {
	rules := map[string]*term{}
	for _, line := range strings.Split(strings.TrimSpace(text), "\n") {
		name, right, _ := strings.Cut(line, " = ")
		rules[name], _ = readTerm(strings.Fields(right))
	}
	return rules
}

// readTerm reads alternatives, up to a closing bracket.
func readTerm(items []string) (*term, []string) {
	any, one := &term{kind: '|'}, &term{kind: '.'}
	closing := map[string]byte{"(": '.', "[": '?', "{": '*'}
	for len(items) > 0 && !slices.Contains([]string{")", "]", "}"}, items[0]) {
		item := items[0]
		items = items[1:]
		switch {
		case item == "|":
			any.kids = append(any.kids, one)
			one = &term{kind: '.'}
		case closing[item] != 0:
			var inner *term
			inner, items = readTerm(items)
			items = items[1:]
			one.kids = append(one.kids, &term{kind: closing[item], kids: []*term{inner}})
		case item[0] == '"':
			one.kids = append(one.kids, &term{kind: 'w', text: strings.Trim(item, `"`)})
		default:
			one.kids = append(one.kids, &term{kind: 'r', text: item})
		}
	}
	any.kids = append(any.kids, one)
	return any, items
}

// rest is what may follow: top, and then what is below. Nil is the end of the text.
type rest struct {
	top   *term
	below *rest
}

func startOfSource() []*rest { return []*rest{{top: grammar["source"]}} }

// behind tells what may follow behind a word; nothing, if the word may not stand there.
func behind(ways []*rest, w modelWord) []*rest {
	var next []*rest
	for _, way := range ways {
		next = append(next, way.behind(w)...)
	}
	return next
}

func (way *rest) behind(w modelWord) []*rest {
	if way == nil {
		return nil
	}
	top, below := way.top, way.below
	switch top.kind {
	case 'w':
		if (w.kind == keyWord || w.kind == signWord) && w.text == top.text {
			return []*rest{below}
		}
		return nil
	case 'r':
		if top.text == "name" || top.text == "number" {
			if (top.text == "name" && w.kind == nameWord) || (top.text == "number" && w.kind == numberWord) {
				return []*rest{below}
			}
			return nil
		}
		return (&rest{grammar[top.text], below}).behind(w)
	case '.':
		for i := len(top.kids) - 1; i >= 0; i-- {
			below = &rest{top.kids[i], below}
		}
		return below.behind(w)
	}
	var next []*rest
	switch top.kind {
	case '*':
		next = (&rest{top.kids[0], way}).behind(w)
	default:
		for _, kid := range top.kids {
			next = append(next, (&rest{kid, below}).behind(w)...)
		}
	}
	if top.kind != '|' {
		next = append(next, below.behind(w)...)
	}
	return next
}

// mayEnd tells whether the text may end where so much may follow.
func mayEnd(ways []*rest) bool {
	for _, way := range ways {
		for way != nil && (way.top.kind == '*' || way.top.kind == '?') {
			way = way.below
		}
		if way == nil {
			return true
		}
	}
	return false
}

// depths tells of each word whether it is too deep, all the words ahead of it being right.
type depths struct {
	blocks []int // the depth of the statements in each open block
	own    int   // the depth of the statement that is being read, or was last; 0 in a function's head
	first  string
	base   int   // the depth of the expression that is being read
	signs  int   // unary signs directly ahead
	around []int // the depths of the expressions with open parentheses
	last   modelWord
}

func operandEnds(w modelWord) bool {
	return w.kind == nameWord || w.kind == numberWord || w.text == ")"
}

func (d *depths) tooDeep(w modelWord) bool {
	last := d.last
	d.last = w
	switch {
	case len(d.blocks) == 0: // a function's head
		if w.text == "{" {
			d.blocks = []int{1}
		}
		return false
	case w.text == "{":
		d.blocks = append(d.blocks, d.own+1)
		return false
	case w.text == "}":
		d.own = d.blocks[len(d.blocks)-1] - 1
		d.blocks = d.blocks[:len(d.blocks)-1]
		return false
	case w.text == "else":
		return false
	case last.text == "else":
		return d.begins(w, d.own+1)
	case last.text == "{" || last.text == "}" || last.text == ";":
		return d.begins(w, d.blocks[len(d.blocks)-1])
	}
	return d.within(w, last)
}

// begins: w is the first word of a statement.
func (d *depths) begins(w modelWord, depth int) bool {
	d.own, d.first, d.base, d.signs, d.around = depth, w.text, depth, 0, nil
	return depth > 40
}

// within: w is a further word of a statement.
func (d *depths) within(w, last modelWord) bool {
	deeper := d.base + d.signs + 1
	switch {
	case w.text == "(" && d.first == "spawn" && len(d.around) == 0:
		d.around = append(d.around, d.base)
		return false
	case w.text == "(":
		d.around = append(d.around, d.base)
		d.base, d.signs = deeper, 0
		return deeper > 40
	case w.text == ")":
		d.base, d.signs = d.around[len(d.around)-1], 0
		d.around = d.around[:len(d.around)-1]
		return false
	case (w.text == "-" || w.text == "!") && !operandEnds(last):
		d.signs++
		return deeper > 40
	case w.kind == keyWord:
		return deeper > 40
	case w.kind != nameWord: // behind a name its parenthesis may follow
		d.signs = 0
	}
	return false
}

// wrongAlone tells whether a word is wrong by itself, behind the words ahead of it.
func wrongAlone(words []modelWord, i int) api.Errno {
	w := words[i]
	switch w.kind {
	case noWord:
		return api.ErrByte
	case nameWord:
		if len(w.text) > 24 {
			return api.ErrName
		}
	case numberWord:
		n, _ := new(big.Int).SetString(w.text, 10)
		most, _ := new(big.Int).SetString("9223372036854775807", 10)
		if i > 0 && words[i-1].text == "-" && !(i > 1 && operandEnds(words[i-2])) {
			most.Add(most, big.NewInt(1))
		}
		if len(w.text) > 1 && w.text[0] == '0' || n.Cmp(most) > 0 {
			return api.ErrLiteral
		}
	}
	return api.OK
}

// modelSpot tells the first fault of a text.
func modelSpot(src string) api.Spot {
	if len(src) > 16384 {
		return api.Spot{Err: api.ErrLong}
	}
	words := modelWords(src)
	ways := startOfSource()
	var deep depths
	for i, w := range words {
		if err := wrongAlone(words, i); err != api.OK {
			return api.Spot{Err: err, At: w.at}
		}
		if w.kind == endWord {
			if !mayEnd(ways) {
				return api.Spot{Err: api.ErrSyntax, At: w.at}
			}
			break
		}
		ways = behind(ways, w)
		if len(ways) == 0 {
			return api.Spot{Err: api.ErrSyntax, At: w.at}
		}
		if deep.tooDeep(w) {
			return api.Spot{Err: api.ErrNest, At: w.at}
		}
	}
	return api.Spot{}
}

// modelParse tells what Parse is to answer.
func modelParse(src string) (api.Source, api.Spot) {
	spot := modelSpot(src)
	if spot != (api.Spot{}) {
		return api.Source{}, spot
	}
	words := modelWords(src)
	return modelSource(words[:len(words)-1]), spot
}

// find tells where a word stands first.
func find(words []modelWord, text string) int {
	return slices.IndexFunc(words, func(w modelWord) bool { return w.text == text })
}

// match tells where the bracket that opens at a place is closed.
func match(words []modelWord, at int) int {
	open := 0
	for i := at; ; i++ {
		switch words[i].text {
		case "(", "{":
			open++
		case ")", "}":
			open--
		}
		if open == 0 {
			return i
		}
	}
}

func modelSource(words []modelWord) api.Source {
	var s api.Source
	for len(words) > 0 {
		shut := match(words, 2)
		f := api.Fn{Name: words[1].text}
		for i := 3; i < shut; i += 2 {
			f.Params = append(f.Params, words[i].text)
		}
		end := match(words, shut+1)
		f.Body = modelBlock(words[shut+2 : end])
		s.Fns = append(s.Fns, f)
		words = words[end+1:]
	}
	return s
}

func modelBlock(words []modelWord) []api.Stmt {
	var list []api.Stmt
	for len(words) > 0 {
		var s api.Stmt
		s, words = modelStmt(words)
		list = append(list, s)
	}
	return list
}

// modelStmt tells a statement, and the words behind it.
func modelStmt(words []modelWord) (api.Stmt, []modelWord) {
	first := words[0].text
	if first == "if" || first == "while" {
		open := find(words, "{")
		end := match(words, open)
		s := api.Stmt{Kind: api.SWhile, E: modelExpr(words[1:open]), Body: modelBlock(words[open+1 : end])}
		words = words[end+1:]
		if first == "if" {
			s.Kind = api.SIf
			s.Else, words = modelElse(words)
		}
		return s, words
	}
	end := find(words, ";")
	inner, behind := words[:end], words[end+1:]
	plain := map[string]int{"sync": api.SSync, "break": api.SBreak, "continue": api.SContinue}
	named := map[string]int{"let": api.SLet, "spawn": api.SSpawn}
	alone := map[string]int{"do": api.SDo, "return": api.SReturn}
	if kind, ok := plain[first]; ok {
		return api.Stmt{Kind: kind}, behind
	}
	if kind, ok := named[first]; ok {
		return api.Stmt{Kind: kind, Name: inner[1].text, E: modelExpr(inner[3:])}, behind
	}
	if kind, ok := alone[first]; ok {
		return api.Stmt{Kind: kind, E: modelExpr(inner[1:])}, behind
	}
	return api.Stmt{Kind: api.SSet, Name: first, E: modelExpr(inner[2:])}, behind
}

// modelElse tells what stands in the else that the words may begin with, and the words behind it.
func modelElse(words []modelWord) ([]api.Stmt, []modelWord) {
	if len(words) == 0 || words[0].text != "else" {
		return nil, words
	}
	if words[1].text == "if" {
		s, behind := modelStmt(words[1:])
		return []api.Stmt{s}, behind
	}
	end := match(words, 1)
	return modelBlock(words[2:end]), words[end+1:]
}

// levelSigns has the binary signs, from the loosest level on.
var levelSigns = [][]string{{"||"}, {"&&"}, {"==", "!=", "<", "<="}, {"|", "^"}, {"&"}, {"<<", ">>"}, {"+", "-"}, {"*", "/", "%"}}

// lastSign tells where the last sign of a level stands that is in no parentheses, or -1.
func lastSign(words []modelWord, signs []string) int {
	last, open := -1, 0
	for i, w := range words {
		switch {
		case w.text == "(":
			open++
		case w.text == ")":
			open--
		case open == 0 && i > 0 && operandEnds(words[i-1]) && slices.Contains(signs, w.text):
			last = i
		}
	}
	return last
}

func modelExpr(words []modelWord) api.Expr {
	for _, signs := range levelSigns {
		at := lastSign(words, signs)
		if at < 0 {
			continue
		}
		e := api.Expr{Kind: api.EBinary, Op: ops.Find(words[at].text), Kids: []api.Expr{modelExpr(words[:at]), modelExpr(words[at+1:])}}
		switch words[at].text {
		case "&&":
			e.Kind, e.Op = api.EAnd, 0
		case "||":
			e.Kind, e.Op = api.EOr, 0
		}
		return e
	}
	return modelOperand(words)
}

func modelOperand(words []modelWord) api.Expr {
	first := words[0]
	switch {
	case first.kind == numberWord:
		return modelNumber(first.text)
	case first.text == "-" && words[1].kind == numberWord:
		return modelNumber("-" + words[1].text)
	case first.text == "-":
		return api.Expr{Kind: api.ENeg, Kids: []api.Expr{modelExpr(words[1:])}}
	case first.text == "!":
		return api.Expr{Kind: api.ENot, Kids: []api.Expr{modelExpr(words[1:])}}
	case first.text == "(":
		return modelExpr(words[1 : len(words)-1])
	case len(words) == 1:
		return api.Expr{Kind: api.EName, Name: first.text}
	}
	parts := commas(words[2 : len(words)-1])
	var e api.Expr
	switch first.text {
	case "min", "max":
		e = api.Expr{Kind: api.EBinary, Op: ops.Find(first.text)}
	case "reduce":
		e = api.Expr{Kind: api.EReduce, Name: parts[0][0].text, Comb: parts[1][0].text}
		parts = parts[2:]
	case "each":
		e = api.Expr{Kind: api.EEach, Name: parts[0][0].text}
		parts = parts[1:]
	default:
		e = api.Expr{Kind: api.ECall, Name: first.text}
	}
	for _, part := range parts {
		e.Kids = append(e.Kids, modelExpr(part))
	}
	return e
}

func modelNumber(text string) api.Expr {
	n, _ := new(big.Int).SetString(text, 10)
	return api.Expr{Kind: api.ENumber, K: n.Int64()}
}

// commas cuts words at the commas that are in no parentheses.
func commas(words []modelWord) [][]modelWord {
	if len(words) == 0 {
		return nil
	}
	var parts [][]modelWord
	start, open := 0, 0
	for i, w := range words {
		switch w.text {
		case "(":
			open++
		case ")":
			open--
		case ",":
			if open == 0 {
				parts = append(parts, words[start:i])
				start = i + 1
			}
		}
	}
	return append(parts, words[start:])
}
