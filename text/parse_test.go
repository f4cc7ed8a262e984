package text_test

import (
	"strings"
	"testing"

	"plunder/api"
	"plunder/text"
)

// checkParse holds a text against the words, and tells what came of it.
func checkParse(t *testing.T, src string) (api.Source, api.Spot) {
	t.Helper()
	s, spot := text.Parse(src)
	want, wantSpot := modelParse(src)
	if spot != wantSpot || !sameSource(s, want) {
		t.Errorf("14.1: Parse(%.400q) = %v, %v, want %v, %v", src, s, spot, want, wantSpot)
	}
	return s, spot
}

// returned tells the expression that the only function of a text returns.
func returned(t *testing.T, src string) api.Expr {
	t.Helper()
	s, spot := checkParse(t, "fn f() { return "+src+"; }")
	if spot != (api.Spot{}) || len(s.Fns) != 1 || len(s.Fns[0].Body) != 1 {
		t.Errorf("14.1: %q: %v, %v", src, s, spot)
		return api.Expr{}
	}
	return s.Fns[0].Body[0].E
}

// 14.1: the trees of expressions.
func TestExpressions(t *testing.T) {
	a, b, c := name("a"), name("b"), name("c")
	for src, want := range map[string]api.Expr{
		"a": a, "(((a)))": a, "0": num(0), "12": num(12), "9223372036854775807": num(1<<63 - 1), "-9223372036854775808": num(-1 << 63), "- // x\n9223372036854775808": num(-1 << 63), "--9223372036854775808": of(api.ENeg, num(-1<<63)), "a - -9223372036854775808": bin(api.Sub, a, num(-1<<63)),
		"-3": num(-3), "- 3": num(-3), "-0": num(0), "-(3)": of(api.ENeg, num(3)), "-(-3)": of(api.ENeg, num(-3)), "--3": of(api.ENeg, num(-3)), "---3": of(api.ENeg, of(api.ENeg, num(-3))), "!3": of(api.ENot, num(3)), "!-3": of(api.ENot, num(-3)), "-!3": of(api.ENeg, of(api.ENot, num(3))), "-a": of(api.ENeg, a), "!!a": of(api.ENot, of(api.ENot, a)), "-a*b": bin(api.Mul, of(api.ENeg, a), b), "-3*b": bin(api.Mul, num(-3), b), "!a==b": bin(api.Eq, of(api.ENot, a), b), "-(a*b)": of(api.ENeg, bin(api.Mul, a, b)),
		"a-3": bin(api.Sub, a, num(3)), "a- -3": bin(api.Sub, a, num(-3)), "a--3": bin(api.Sub, a, num(-3)), "a!=b": bin(api.Ne, a, b), "a==!b": bin(api.Eq, a, of(api.ENot, b)), "3-3-3": bin(api.Sub, bin(api.Sub, num(3), num(3)), num(3)), "(3)-3": bin(api.Sub, num(3), num(3)), "g()-3": bin(api.Sub, call("g"), num(3)),
		"a || b && c": of(api.EOr, a, of(api.EAnd, b, c)), "a && b || c": of(api.EOr, of(api.EAnd, a, b), c), "a && (b || c)": of(api.EAnd, a, of(api.EOr, b, c)), "a || b || c": of(api.EOr, of(api.EOr, a, b), c), "a && b && c": of(api.EAnd, of(api.EAnd, a, b), c),
		"a - b + c": bin(api.Add, bin(api.Sub, a, b), c), "a < b == c": bin(api.Eq, bin(api.Lt, a, b), c), "a + b * 2": bin(api.Add, a, bin(api.Mul, b, num(2))), "a * b + 2": bin(api.Add, bin(api.Mul, a, b), num(2)), "(a + b) * 2": bin(api.Mul, bin(api.Add, a, b), num(2)), "a / b % c": bin(api.Rem, bin(api.Div, a, b), c), "a<<b>>c": bin(api.Shr, bin(api.Shl, a, b), c),
		"g()": call("g"), "g (a)": call("g", a), "g(a)": call("g", a), "g(a,b+1,(c))": call("g", a, bin(api.Add, b, num(1)), c), "g(h(i()))": call("g", call("h", call("i"))), "min(a,b)": bin(api.Min, a, b), "max(a || b, -1)": bin(api.Max, of(api.EOr, a, b), num(-1)),
		"reduce(g, h, 0, a, 4)": {Kind: api.EReduce, Name: "g", Comb: "h", Kids: []api.Expr{num(0), a, num(4)}}, "each(g, a, b)": {Kind: api.EEach, Name: "g", Kids: []api.Expr{a, b}},
	} {
		if got := returned(t, src); !sameExpr(got, want) {
			t.Errorf("14.1: %q is %v, want %v", src, got, want)
		}
	}
}

// 14.1: each two binary signs, of the same level or not, in all three shapes.
func TestTwoSigns(t *testing.T) {
	level := map[string]int{}
	for i, signs := range levelSigns {
		for _, sign := range signs {
			level[sign] = i
		}
	}
	for p, i := range level {
		for q, j := range level {
			left, right := returned(t, "(a "+p+" b) "+q+" c"), returned(t, "a "+p+" (b "+q+" c)")
			want := left
			if j > i {
				want = right
			}
			if got := returned(t, "a "+p+" b "+q+" c"); !sameExpr(got, want) {
				t.Errorf("14.1: a %s b %s c is %v, want %v", p, q, got, want)
			}
			if sameExpr(left, right) {
				t.Errorf("14.1: parentheses do nothing to a %s b %s c", p, q)
			}
		}
	}
}

// 14.1: the trees of statements.
func TestStatements(t *testing.T) {
	one, set := num(1), api.Stmt{Kind: api.SSet, Name: "x", E: num(1)}
	for src, want := range map[string][]api.Stmt{
		"": nil, "let x = 1;": {{Kind: api.SLet, Name: "x", E: one}}, "x = 1;": {set}, "x=1;x=1;": {set, set}, "sync;": {{Kind: api.SSync}}, "break; continue;": {{Kind: api.SBreak}, {Kind: api.SContinue}}, "do 1; return 1;": {{Kind: api.SDo, E: one}, {Kind: api.SReturn, E: one}},
		"spawn x = g();": {{Kind: api.SSpawn, Name: "x", E: call("g")}}, "spawn x = g(1, x);": {{Kind: api.SSpawn, Name: "x", E: call("g", one, name("x"))}},
		"while 1 { }": {{Kind: api.SWhile, E: one}}, "while 1 { x = 1; x = 1; } x = 1;": {{Kind: api.SWhile, E: one, Body: []api.Stmt{set, set}}, set}, "while x { while 1 { } }": {{Kind: api.SWhile, E: name("x"), Body: []api.Stmt{{Kind: api.SWhile, E: one}}}},
		"if 1 { }": {{Kind: api.SIf, E: one}}, "if 1 { } else { }": {{Kind: api.SIf, E: one}}, "if 1 { x = 1; } x = 1;": {{Kind: api.SIf, E: one, Body: []api.Stmt{set}}, set}, "if 1 { } else { x = 1; x = 1; }": {{Kind: api.SIf, E: one, Else: []api.Stmt{set, set}}},
		"if 1 { } else if x { } else { x = 1; }": {{Kind: api.SIf, E: one, Else: []api.Stmt{{Kind: api.SIf, E: name("x"), Else: []api.Stmt{set}}}}}, "if 1 { } else { if x { } else { x = 1; } }": {{Kind: api.SIf, E: one, Else: []api.Stmt{{Kind: api.SIf, E: name("x"), Else: []api.Stmt{set}}}}}, "if 1 { if x { } } else { x = 1; }": {{Kind: api.SIf, E: one, Body: []api.Stmt{{Kind: api.SIf, E: name("x")}}, Else: []api.Stmt{set}}},
	} {
		s, spot := checkParse(t, "fn f() {"+src+"}")
		if spot != (api.Spot{}) || !sameSource(s, function(want...)) {
			t.Errorf("14.1: %q: %v, %v, want %v", src, s, spot, want)
		}
	}
	s, spot := checkParse(t, "fn f(a, b, a) { } fn f() { sync; } fn _(x) { }")
	want := api.Source{Fns: []api.Fn{{Name: "f", Params: []string{"a", "b", "a"}}, {Name: "f", Body: []api.Stmt{{Kind: api.SSync}}}, {Name: "_", Params: []string{"x"}}}}
	if spot != (api.Spot{}) || !sameSource(s, want) {
		t.Errorf("14.1: functions: %v, %v", s, spot)
	}
}

// 14.1: the examples of the chapter, and other faults.
func TestFaults(t *testing.T) {
	name24, name25 := strings.Repeat("n", 24), strings.Repeat("n", 25)
	for src, want := range map[string]api.Spot{
		"": {Err: api.ErrSyntax}, " \n": {Err: api.ErrSyntax, At: 2}, "// x": {Err: api.ErrSyntax, At: 4}, "fn f() {": {Err: api.ErrSyntax, At: 8}, "fn f() { return 1 }": {Err: api.ErrSyntax, At: 18}, "fn if() { }": {Err: api.ErrSyntax, At: 3}, "fn f() { x = 1 # 2; }": {Err: api.ErrByte, At: 15}, "fn f() { let x = 007; }": {Err: api.ErrLiteral, At: 17},
		"fn f() { return -9223372036854775808; }": {}, "fn f() { return 9223372036854775808; }": {Err: api.ErrLiteral, At: 16}, "fn f() { return 1 - 9223372036854775808; }": {Err: api.ErrLiteral, At: 20}, "fn f() { return x - 9223372036854775808; }": {Err: api.ErrLiteral, At: 20}, "fn f() { return g() - 9223372036854775808; }": {Err: api.ErrLiteral, At: 22}, "fn f() { return -(9223372036854775808); }": {Err: api.ErrLiteral, At: 18}, "fn f() { return -!9223372036854775808; }": {Err: api.ErrLiteral, At: 18}, "fn f() { return -9223372036854775809; }": {Err: api.ErrLiteral, At: 17}, "fn f() { return -00; }": {Err: api.ErrLiteral, At: 17}, "fn f() { return 18446744073709551616; }": {Err: api.ErrLiteral, At: 16}, "fn f() { return 99999999999999999999999; }": {Err: api.ErrLiteral, At: 16},
		"fn f() { - 9223372036854775808": {Err: api.ErrSyntax, At: 9}, "fn 9223372036854775808": {Err: api.ErrLiteral, At: 3}, "fn 9223372036854775807": {Err: api.ErrSyntax, At: 3}, "fn - 9223372036854775808": {Err: api.ErrSyntax, At: 3},
		"fn f() { } // the end": {}, "fn f() { } //": {}, "fn f() { } / ": {Err: api.ErrSyntax, At: 11}, "fn f() { do a > b; }": {Err: api.ErrByte, At: 14}, "fn f() { do a >> b; }": {}, "fn f() { do a >>> b; }": {Err: api.ErrByte, At: 16}, "fn f() { do a >= b; }": {Err: api.ErrByte, At: 14}, "fn f() { do a <<< b; }": {Err: api.ErrSyntax, At: 16}, "fn f() { do a < < b; }": {Err: api.ErrSyntax, At: 16}, "fn f() { do a <== b; }": {Err: api.ErrSyntax, At: 16}, "fn f() { do a !== b; }": {Err: api.ErrSyntax, At: 16}, "fn f() { do a ||| b; }": {Err: api.ErrSyntax, At: 16}, "fn f() { do a &-b; }": {}, "fn f() { do a / b; }": {}, "fn f() { do a /// b; }": {Err: api.ErrSyntax, At: 22}, "fn f() { do a / // b\n 2; }": {}, "fn f() { do a // b\r 2; }": {Err: api.ErrSyntax, At: 24},
		"fn " + name24 + "() { }": {}, "fn " + name25 + "() { }": {Err: api.ErrName, At: 3}, name25: {Err: api.ErrName}, name24: {Err: api.ErrSyntax}, "fn f() { do " + strings.Repeat("9", 25) + "; }": {Err: api.ErrLiteral, At: 12},
		"fn f() { do caf\u00e9; }": {Err: api.ErrByte, At: 15}, "fn f() { do \u0661; }": {Err: api.ErrByte, At: 12}, "\ufefffn f() { }": {Err: api.ErrByte}, "fn\u00a0f() { }": {Err: api.ErrByte, At: 2}, "fn\ff() { }": {Err: api.ErrByte, At: 2}, "fn f() { do a\xe9; }": {Err: api.ErrByte, At: 13}, "fn f() { } // \xff\x00": {},
		"fn f() { if 1 { } else if 2 { } else if }": {Err: api.ErrSyntax, At: 40}, "fn f() { if 1 { } else else": {Err: api.ErrSyntax, At: 23}, "fn f() { while 1 { } else { } }": {Err: api.ErrSyntax, At: 21}, "fn f() { if 1 { } else { } else { } }": {Err: api.ErrSyntax, At: 27}, "fn f() { ; }": {Err: api.ErrSyntax, At: 9}, "fn f() { { } }": {Err: api.ErrSyntax, At: 9}, "fn f() { } }": {Err: api.ErrSyntax, At: 11}, "fn f() { } fn": {Err: api.ErrSyntax, At: 13}, "fn f() { spawn x = (g()); }": {Err: api.ErrSyntax, At: 19}, "fn f() { spawn = g(); }": {Err: api.ErrSyntax, At: 15}, "fn f() { do (); }": {Err: api.ErrSyntax, At: 13}, "fn f() { do f()(); }": {Err: api.ErrSyntax, At: 15}, "fn f() { do 1(2); }": {Err: api.ErrSyntax, At: 13}, "fn f() { do (f)(2); }": {Err: api.ErrSyntax, At: 15}, "fn f() { do +1; }": {Err: api.ErrSyntax, At: 12}, "fn f() { let min = 1; }": {Err: api.ErrSyntax, At: 13}, "fn f() { x = y = 1; }": {Err: api.ErrSyntax, At: 15}, "fn f(,) { }": {Err: api.ErrSyntax, At: 5},
	} {
		s, spot := checkParse(t, src)
		if spot != want || want.Err != api.OK && len(s.Fns) != 0 {
			t.Errorf("14.1: Parse(%q) = %v, %v, want %v", src, s, spot, want)
		}
	}
}

// 14.1, 14.4, 14.5: all rows of a few words behind some beginnings, each held against the grammar: what may stand there may be finished, and what may not is the fault.
func TestAllShortRows(t *testing.T) {
	seen := 0
	for _, start := range []string{"", "fn", "fn x (", "fn x ( ) {", "fn x ( ) { let", "fn x ( ) { x", "fn x ( ) { spawn x =", "fn x ( ) { spawn x = x (", "fn x ( ) { if", "fn x ( ) { if 0 { }", "fn x ( ) { if 0 { } else", "fn x ( ) { while 0 {", "fn x ( ) { do", "fn x ( ) { do 0", "fn x ( ) { do - 7", "fn x ( ) { do x", "fn x ( ) { do x (", "fn x ( ) { do min (", "fn x ( ) { do reduce ( x", "fn x ( ) { do each (", "fn x ( ) { do ( x )", "fn x ( ) { do 0 ;", "fn x ( ) { do 0 ; }"} {
		ways := startOfSource()
		for _, w := range modelWords(start) {
			if w.kind != endWord {
				ways = behind(ways, w)
			}
		}
		seen += allRows(t, start, ways, 3)
	}
	if seen < 60000 {
		t.Errorf("14.1: only %d rows", seen)
	}
}

// allRows holds all rows of so many more words, and tells how many.
func allRows(t *testing.T, start string, ways []*rest, more int) int {
	seen := 0
	for _, word := range alphabet {
		src := strings.TrimPrefix(start+" "+word, " ")
		next := behind(ways, modelWords(word)[0])
		want := api.Spot{Err: api.ErrSyntax, At: len(src)}
		if len(next) == 0 {
			want.At -= len(word)
		} else if mayEnd(next) {
			want = api.Spot{}
		}
		if _, spot := text.Parse(src); spot != want {
			t.Errorf("14.1: Parse(%q) = %v, want %v", src, spot, want)
		}
		checkTail(t, src, want)
		seen++
		if len(next) > 0 && more > 1 {
			seen += allRows(t, src, next, more-1)
		}
	}
	return seen
}

// 14.1: every byte at many places.
func TestEveryByte(t *testing.T) {
	const src = "fn f(a){if a<1{x=-2;}else{do min(a,b)&&!g();}}"
	for b := range 256 {
		for at := range len(src) + 1 {
			checkParse(t, src[:at]+string([]byte{byte(b)})+src[at:])
			checkParse(t, src[:at]+string([]byte{' ', byte(b)}))
		}
	}
}

// 14.1, 14.3: drawn trees, each by two of its texts.
func TestDrawnTrees(t *testing.T) {
	d := newDrawer(1)
	for range 3000 {
		want := d.source()
		for range 2 {
			words := d.spell(want)
			src := d.join(words)
			if len(src) > api.MaxSource {
				continue
			}
			if s, spot := text.Parse(src); spot != (api.Spot{}) || !sameSource(s, want) {
				t.Errorf("14.1: Parse(%q) = %v, %v, want %v", src, s, spot, want)
			}
			if s, spot := text.Parse(strings.Join(words, " ")); spot != (api.Spot{}) || !sameSource(s, want) {
				t.Errorf("14.3: the words of %q with blanks: %v, %v, want %v", src, s, spot, want)
			}
		}
	}
}

// 14.1, 14.2, 14.3, 14.5: drawn texts that are spoilt.
func TestSpoiltTexts(t *testing.T) {
	d := newDrawer(2)
	kinds := map[api.Errno]int{}
	for range 4000 {
		words := d.spoil(d.spell(d.source()))
		src := d.join(words)
		if d.Intn(3) == 0 {
			src = d.spoilBytes(src)
		}
		if len(src) > 8000 {
			continue
		}
		_, spot := checkParse(t, src)
		kinds[spot.Err]++
		checkFollowing(t, d, src, spot)
		checkTail(t, src, spot)
		if spot.Err == api.ErrSyntax {
			if _, err := text.Tail(src[:spot.At]); err != api.OK {
				t.Errorf("14.5: Tail of the first %d bytes of %q: %d", spot.At, src, err)
			}
		}
	}
	for _, err := range []api.Errno{api.OK, api.ErrByte, api.ErrSyntax, api.ErrName, api.ErrLiteral} {
		if kinds[err] < 20 {
			t.Errorf("14.1: only %d of the spoilt texts have the error %d", kinds[err], err)
		}
	}
}

// checkFollowing: 14.2.
func checkFollowing(t *testing.T, d drawer, src string, spot api.Spot) {
	t.Helper()
	if spot.Err == api.OK || spot.At == len(src) {
		return
	}
	for _, more := range []string{"", "#", "}", "*/", "; }", strings.Join(d.spell(d.source()), " ")} {
		whole := src + "\n" + more
		if len(whole) > api.MaxSource {
			continue
		}
		if s, got := text.Parse(whole); got != spot || len(s.Fns) != 0 {
			t.Errorf("14.2: Parse(%q) = %v, without what follows it is %v", whole, got, spot)
		}
	}
}

// 14.3: blanks and comments change places alone: the word that is wrong stays the same one.
func TestBlanks(t *testing.T) {
	d := newDrawer(3)
	for range 1500 {
		words := d.spell(d.source())
		if d.Intn(2) == 0 {
			words = d.spoil(words)
		}
		plain := blanked(words, func(string) string { return " " })
		other := blanked(words, d.blank)
		if len(other.src) > api.MaxSource || len(plain.src) > api.MaxSource {
			continue
		}
		s, spot := text.Parse(plain.src)
		o, otherSpot := text.Parse(other.src)
		if !sameSource(s, o) || spot.Err != otherSpot.Err || spot.Err != api.OK && plain.number[spot.At] != other.number[otherSpot.At] {
			t.Errorf("14.3: Parse(%q) = %v, Parse(%q) = %v", plain.src, spot, other.src, otherSpot)
		}
	}
}

// placed is a text, and by the places in it the numbers of its words.
type placed struct {
	src    string
	number map[int]int
}

// blanked writes words with blanks ahead of each, and at the end.
func blanked(words []string, blank func(word string) string) placed {
	p := placed{src: blank(""), number: map[int]int{}}
	for i, w := range words {
		p.number[len(p.src)] = i
		p.src += w + blank(w)
	}
	p.number[len(p.src)] = len(words)
	return p
}

// 14.1: the length is looked at ahead of all else.
func TestLength(t *testing.T) {
	for _, src := range []string{"fn f() { }", "fn f() {", "#", "fn 007", "", "fn f() { } //", strings.Repeat("n", 25)} {
		for _, length := range []int{16383, 16384, 16385, 100000} {
			long := src + strings.Repeat(" ", length-len(src))
			s, spot := checkParse(t, long)
			if (spot == api.Spot{Err: api.ErrLong}) != (length > 16384) || length > 16384 && len(s.Fns) != 0 {
				t.Errorf("14.1: Parse(%q and blanks, %d bytes) = %v", src, length, spot)
			}
		}
	}
	for _, length := range []int{16384, 16385} {
		long := "fn f() { do 1" + strings.Repeat("+1", (length-16)/2) + strings.Repeat(" ", length%2) + "; }"
		s, spot := text.Parse(long)
		if (spot == api.Spot{}) != (length == 16384) || (len(s.Fns) == 1) != (length == 16384) || length != len(long) {
			t.Errorf("14.1: %d bytes of a sum: %d functions, %v", len(long), len(s.Fns), spot)
		}
	}
	for _, open := range []string{"(", "-", "!", "{", "fn f() { if 1 { } else ", "x", "9", "/", "//\n", "fn f(a) { }", "\n"} {
		checkParse(t, strings.Repeat(open, 16384/len(open)))
		checkParse(t, "fn f() { do "+strings.Repeat(open, 16000/len(open)))
	}
}

// opener is something to nest in: what stands ahead and behind, and how many depths it takes.
type opener struct {
	ahead, behind string
	depth         int
}

var blockOpeners = []opener{{"while 1 { ", " }", 1}, {"if 1 { ", " }", 1}, {"if x { } else { ", " }", 1}, {"if 1 { } else if 2 { ", " }", 2}, {"if 1 { } else if 2 { } else { ", " }", 2}, {"if 1 { while 2 { } } else if 2 { sync; } else if 3 { ", " } else { }", 3}, {"sync; do - (1); while - - 1 + 2 { ", "} ", 1}}

var exprOpeners = []opener{{"(", ")", 1}, {"-", "", 1}, {"!", "", 1}, {"- ", " + 1", 1}, {"g(", ")", 1}, {"1 + g((2), ", ", 3) * 4", 1}, {"min(", ", 1)", 1}, {"max((1), ", ")", 1}, {"reduce(f, g, 1, ", ", 2)", 1}, {"each(f, 1, ", ")", 1}, {"-min(1, ", ")", 2}, {"!-g(", ")", 3}, {"-(1) - (", ")", 1}, {"--a + !", "", 1}, {"g() - ", "", 0}, {"-1 - (", ") < - - 2", 1}}

var lastStmts = []opener{{"do ", ";", 0}, {"x = ", ";", 0}, {"let x = ", ";", 0}, {"return ", ";", 0}, {"spawn x = g(1, ", ");", 0}, {"if ", " { }", 0}, {"while ", " { }", 0}, {"if 1 { } else if ", " { } else { }", 1}}

// nested draws a text that goes about so deep.
func (d drawer) nested(depth int) string {
	ahead, behind := "", ""
	put := func(o opener) {
		ahead, behind = ahead+o.ahead, o.behind+behind
		depth -= o.depth
	}
	put(opener{"fn f() { ", " }", 1})
	for blocks := d.Intn(depth + 1); blocks > 0; blocks-- {
		put(blockOpeners[d.Intn(len(blockOpeners))])
	}
	put(lastStmts[d.Intn(len(lastStmts))])
	only := d.Intn(len(exprOpeners))
	for mixed := d.Intn(2) == 0; depth > 0; {
		if mixed {
			only = d.Intn(len(exprOpeners))
		}
		if exprOpeners[only].depth == 0 {
			depth-- // else it would not come to an end
		}
		put(exprOpeners[only])
	}
	return ahead + d.of("1", "a", "g()", "-1", "-a", "!a", "(a)", "min(1, 2)", "each(f, 1, 1)", "-9223372036854775808", ")", "007") + behind
}

// 14.1: how deep, for all that nests in one another.
func TestDepth(t *testing.T) {
	d := newDrawer(4)
	kinds := map[api.Errno]int{}
	for range 2000 {
		src := d.nested(36 + d.Intn(8))
		_, spot := checkParse(t, src)
		kinds[spot.Err]++
		checkTail(t, src, spot)
		checkFollowing(t, d, src, spot)
	}
	if kinds[api.OK] < 300 || kinds[api.ErrNest] < 300 {
		t.Errorf("14.1: of the nested texts these have the errors %v", kinds)
	}
}

// 14.1: the last depth that is allowed, and the first that is not, for each thing by itself.
func TestDepthEdges(t *testing.T) {
	repeat := func(o opener, n int, inner string) string {
		return strings.Repeat(o.ahead, n) + inner + strings.Repeat(o.behind, n)
	}
	at := func(src string, err api.Errno, at int) {
		t.Helper()
		if _, spot := checkParse(t, src); spot != (api.Spot{Err: err, At: at}) {
			t.Errorf("14.1: Parse(%q) = %v, want %d at %d", src, spot, err, at)
		}
	}
	for _, o := range []opener{{"(", ")", 0}, {"-", "", 0}, {"!", "", 0}, {"min(", ", 1)", 0}, {"max(", ", 1)", 0}, {"reduce(g, g, ", ", 1, 1)", 0}, {"each(g, ", ", 1)", 0}, {"g(", ")", 1}} {
		at("fn f() { do "+repeat(o, 39, "1")+"; }", api.OK, 0)
		at("fn f() { do "+repeat(o, 40, "1")+"; }", api.ErrNest, 12+39*len(o.ahead)+o.depth)
		at("fn f() { spawn x = h("+repeat(o, 39, "1")+"); }", api.OK, 0)
		at("fn f() { spawn x = h(1, "+repeat(o, 40, "1")+"); }", api.ErrNest, 24+39*len(o.ahead)+o.depth)
	}
	at("fn f() { "+repeat(opener{"if 1 { ", "}", 1}, 40, "")+" }", api.OK, 0)
	at("fn f() { "+repeat(opener{"if 1 { ", "}", 1}, 40, "}")+"}", api.ErrSyntax, 9+40*7+41)
	at("fn f() { "+repeat(opener{"if 1 { ", "}", 1}, 40, "x"), api.ErrNest, 9+40*7)
	at("fn f() { "+repeat(opener{"if 1 { ", "}", 1}, 40, "fn"), api.ErrSyntax, 9+40*7)
	at("fn f() { "+repeat(opener{"if 1 { } else ", "", 1}, 39, "if 1 { }")+" }", api.OK, 0)
	at("fn f() { "+repeat(opener{"if 1 { } else ", "", 1}, 39, "if 1 { } else { }")+" }", api.OK, 0)
	at("fn f() { "+repeat(opener{"if 1 { } else ", "", 1}, 39, "if 1 { } else { sync; }")+" }", api.ErrNest, 9+39*14+16)
	at("fn f() { "+repeat(opener{"if 1 { } else ", "", 1}, 40, "if 1 { }")+" }", api.ErrNest, 9+40*14)
	at("fn f() { "+repeat(opener{"if 1 { } else ", "", 1}, 39, "if -1 { }")+" }", api.ErrNest, 9+39*14+3)
}

// 14.1, R3: a tree is new memory, and no two lists of it share any.
func TestTreesAreNewMemory(t *testing.T) {
	d := newDrawer(5)
	for range 300 {
		src := strings.Join(d.spell(d.source()), " ")
		s, spot := text.Parse(src)
		if spot.Err != api.OK {
			continue
		}
		want := copySource(s)
		again, _ := text.Parse(src)
		appendAll(s)
		if !sameSource(s, want) {
			t.Fatalf("R3: %q: appending to the lists of a tree changes it", src)
		}
		writeAll(s)
		if later, _ := text.Parse(src); !sameSource(again, want) || !sameSource(later, want) {
			t.Fatalf("R3: %q: a write into a tree is seen in another", src)
		}
	}
}

// appendAll appends to all lists of a tree.
func appendAll(s api.Source) {
	_ = append(s.Fns, api.Fn{Name: "new"})
	for _, f := range s.Fns {
		_ = append(f.Params, "new")
		appendBlock(f.Body)
	}
}

func appendBlock(body []api.Stmt) {
	_ = append(body, api.Stmt{Kind: 77})
	for _, s := range body {
		appendBlock(s.Body)
		appendBlock(s.Else)
		appendExpr(s.E)
	}
}

func appendExpr(e api.Expr) {
	_ = append(e.Kids, api.Expr{Kind: 77})
	for _, kid := range e.Kids {
		appendExpr(kid)
	}
}

// writeAll writes into all lists of a tree.
func writeAll(s api.Source) {
	for i, f := range s.Fns {
		for j := range f.Params {
			f.Params[j] = "new"
		}
		writeBlock(f.Body)
		s.Fns[i] = api.Fn{}
	}
}

func writeBlock(body []api.Stmt) {
	for i, s := range body {
		writeBlock(s.Body)
		writeBlock(s.Else)
		writeExpr(s.E)
		body[i] = api.Stmt{Kind: 77}
	}
}

func writeExpr(e api.Expr) {
	for i, kid := range e.Kids {
		writeExpr(kid)
		e.Kids[i] = api.Expr{Kind: 77}
	}
}
