package text_test

import (
	"math"
	"reflect"
	"strings"
	"testing"

	"plunder/api"
	"plunder/ops"
	"plunder/text"
)

// modelPrint writes a tree, line by line. Parentheses are told by trying: they are needed where without them another tree comes of it.
func modelPrint(s api.Source) string {
	var lines []string
	for _, f := range s.Fns {
		lines = append(lines, "fn "+f.Name+"("+strings.Join(f.Params, ", ")+") {")
		lines = append(lines, shifted(modelLines(f.Body))...)
		lines = append(lines, "}")
	}
	return strings.Join(lines, "\n") + "\n"
}

func shifted(lines []string) []string {
	for i := range lines {
		lines[i] = "\t" + lines[i]
	}
	return lines
}

func modelLines(body []api.Stmt) []string {
	var lines []string
	for _, s := range body {
		switch s.Kind {
		case api.SLet:
			lines = append(lines, "let "+s.Name+" = "+modelText(s.E)+";")
		case api.SSet:
			lines = append(lines, s.Name+" = "+modelText(s.E)+";")
		case api.SSpawn:
			lines = append(lines, "spawn "+s.Name+" = "+modelText(s.E)+";")
		case api.SDo:
			lines = append(lines, "do "+modelText(s.E)+";")
		case api.SReturn:
			lines = append(lines, "return "+modelText(s.E)+";")
		case api.SSync:
			lines = append(lines, "sync;")
		case api.SBreak:
			lines = append(lines, "break;")
		case api.SContinue:
			lines = append(lines, "continue;")
		case api.SWhile:
			lines = append(lines, "while "+modelText(s.E)+" {")
			lines = append(append(lines, shifted(modelLines(s.Body))...), "}")
		case api.SIf:
			lines = append(lines, modelIf(s)...)
		}
	}
	return lines
}

func modelIf(s api.Stmt) []string {
	lines := append([]string{"if " + modelText(s.E) + " {"}, shifted(modelLines(s.Body))...)
	switch {
	case len(s.Else) == 0:
		return append(lines, "}")
	case len(s.Else) == 1 && s.Else[0].Kind == api.SIf:
		other := modelIf(s.Else[0])
		other[0] = "} else " + other[0]
		return append(lines, other...)
	}
	lines = append(append(lines, "} else {"), shifted(modelLines(s.Else))...)
	return append(lines, "}")
}

// textIs tells whether a text is that of an expression.
func textIs(src string, e api.Expr) bool {
	words := modelWords(src)
	return sameExpr(modelExpr(words[:len(words)-1]), e)
}

func modelText(e api.Expr) string {
	var kids []string
	for _, kid := range e.Kids {
		kids = append(kids, modelText(kid))
	}
	sign := ops.Name(e.Op)
	switch e.Kind {
	case api.ENumber:
		return ops.Format(e.K)
	case api.EName:
		return e.Name
	case api.ENeg, api.ENot:
		sign = map[int]string{api.ENeg: "-", api.ENot: "!"}[e.Kind]
		if !textIs(sign+kids[0], e) {
			kids[0] = "(" + kids[0] + ")"
		}
		return sign + kids[0]
	case api.ECall:
		return e.Name + "(" + strings.Join(kids, ", ") + ")"
	case api.EReduce:
		return "reduce(" + e.Name + ", " + e.Comb + ", " + strings.Join(kids, ", ") + ")"
	case api.EEach:
		return "each(" + e.Name + ", " + strings.Join(kids, ", ") + ")"
	case api.EAnd:
		sign = "&&"
	case api.EOr:
		sign = "||"
	}
	if e.Kind == api.EBinary && (e.Op == api.Min || e.Op == api.Max) {
		return sign + "(" + strings.Join(kids, ", ") + ")"
	}
	left, right := copyExpr(e), copyExpr(e)
	left.Kids[1], right.Kids[0] = name("z"), name("z")
	if !textIs(kids[0]+" "+sign+" z", left) {
		kids[0] = "(" + kids[0] + ")"
	}
	if !textIs("z "+sign+" "+kids[1], right) {
		kids[1] = "(" + kids[1] + ")"
	}
	return kids[0] + " " + sign + " " + kids[1]
}

// checkPrint holds a tree against the words, and tells what came of it.
func checkPrint(t *testing.T, s api.Source) (string, api.Errno) {
	t.Helper()
	src, err := text.Print(s)
	want := modelPrint(s)
	wantErr := modelSpot(want).Err
	if wantErr != api.OK {
		want = ""
	}
	if src != want || err != wantErr {
		t.Errorf("14.7: Print(%v) = %q, %d, want %q, %d", s, src, err, want, wantErr)
	}
	if again, spot := text.Parse(src); err == api.OK && (spot != (api.Spot{}) || !sameSource(again, s)) {
		t.Errorf("14.8: %q, which is the text of %v, is read as %v, %v", src, s, again, spot)
	}
	return src, err
}

// 14.7: the examples of the chapter, and each shape that a line may have.
func TestPrinted(t *testing.T) {
	for src, want := range map[string]string{
		"fn f(a, b) { return a + b * 2; }": "fn f(a, b) {\n\treturn a + b * 2;\n}\n", "fn f(){}fn g(a){}": "fn f() {\n}\nfn g(a) {\n}\n",
		"fn f() { return (1 + 2) * -3; }": "fn f() {\n\treturn (1 + 2) * -3;\n}\n", "fn f() { return -(3); }": "fn f() {\n\treturn -(3);\n}\n", "fn f() { return - 3; }": "fn f() {\n\treturn -3;\n}\n", "fn f() { return - - 3; }": "fn f() {\n\treturn --3;\n}\n", "fn f() { return a - - 3; }": "fn f() {\n\treturn a - -3;\n}\n", "fn f() { return (((a))); }": "fn f() {\n\treturn a;\n}\n",
		"fn f(a) { if a { return 1; } else if !a { return 2; } else { } }":                 "fn f(a) {\n\tif a {\n\t\treturn 1;\n\t} else if !a {\n\t\treturn 2;\n\t}\n}\n",
		"fn f() { if 1 { } else { sync; } }":                                               "fn f() {\n\tif 1 {\n\t} else {\n\t\tsync;\n\t}\n}\n",
		"fn f() { if 1 { } else { if 2 { } sync; } }":                                      "fn f() {\n\tif 1 {\n\t} else {\n\t\tif 2 {\n\t\t}\n\t\tsync;\n\t}\n}\n",
		"fn f() { if 1 { } else { while 2 { } } }":                                         "fn f() {\n\tif 1 {\n\t} else {\n\t\twhile 2 {\n\t\t}\n\t}\n}\n",
		"fn f() { while 1 { while 2 { break; continue; } } }":                              "fn f() {\n\twhile 1 {\n\t\twhile 2 {\n\t\t\tbreak;\n\t\t\tcontinue;\n\t\t}\n\t}\n}\n",
		"fn f() { let x = 1; x = 2; spawn x = g(1, x,-(y)); sync; do each(g,1,2); }":       "fn f() {\n\tlet x = 1;\n\tx = 2;\n\tspawn x = g(1, x, -y);\n\tsync;\n\tdo each(g, 1, 2);\n}\n",
		"fn f() { do reduce(g,h,1,min(2,3),max(4,5)); spawn x = g(); do g(); do !(a|b); }": "fn f() {\n\tdo reduce(g, h, 1, min(2, 3), max(4, 5));\n\tspawn x = g();\n\tdo g();\n\tdo !(a | b);\n}\n",
		"fn f() { if 1 { sync; } else { if 2 { } else { if 3 { } else { do 4; } } } }":     "fn f() {\n\tif 1 {\n\t\tsync;\n\t} else if 2 {\n\t} else if 3 {\n\t} else {\n\t\tdo 4;\n\t}\n}\n",
	} {
		s, _ := text.Parse(src)
		if got, err := checkPrint(t, s); got != want || err != api.OK {
			t.Errorf("14.7: %q is printed %q, %d, want %q", src, got, err, want)
		}
	}
}

// 14.7: each sign within each other, on both sides, and behind a unary one.
func TestParentheses(t *testing.T) {
	var all []api.Expr
	for op := range api.NumOps {
		all = append(all, bin(op, name("a"), num(1)))
	}
	all = append(all, of(api.EAnd, name("a"), num(1)), of(api.EOr, name("a"), num(1)), of(api.ENeg, name("a")), of(api.ENot, name("a")), of(api.ENeg, num(0)), of(api.ENeg, num(-1)), name("a"), num(0), num(1), num(-1), num(math.MaxInt64), num(math.MinInt64), call("g"), call("g", num(1)), api.Expr{Kind: api.EReduce, Name: "g", Comb: "h", Kids: []api.Expr{num(1), num(2), num(3)}}, api.Expr{Kind: api.EEach, Name: "g", Kids: []api.Expr{num(1), num(2)}})
	for _, outer := range all {
		for at := range outer.Kids {
			for _, inner := range all {
				e := copyExpr(outer)
				e.Kids[at] = inner
				checkPrint(t, returns(e))
				for _, kind := range []int{api.ENeg, api.ENot} {
					checkPrint(t, returns(of(kind, e)))
				}
			}
		}
	}
}

// 14.7, 14.8: drawn trees, and texts of theirs.
func TestDrawnTreesPrinted(t *testing.T) {
	d := newDrawer(7)
	good := 0
	for range 1500 {
		s := d.source()
		kept := copySource(s)
		src, err := checkPrint(t, s)
		if !sameSource(s, kept) {
			t.Errorf("R3: Print changes a tree")
		}
		if err != api.OK {
			continue
		}
		good++
		spelt := d.join(d.spell(s))
		again, spot := text.Parse(spelt)
		if spot.Err != api.OK {
			continue
		}
		if other, err := text.Print(again); other != src || err != api.OK {
			t.Errorf("14.8: %q is printed %q, %d, and %q is", spelt, other, err, src)
		}
	}
	if good < 1000 {
		t.Errorf("14.7: only %d of the drawn trees have a text", good)
	}
}

// 14.8: what is read can be printed, however deep it is.
func TestDeepTextsPrinted(t *testing.T) {
	d := newDrawer(8)
	good := 0
	for range 600 {
		s, spot := text.Parse(d.nested(36 + d.Intn(6)))
		if spot.Err != api.OK {
			continue
		}
		good++
		if _, err := checkPrint(t, s); err != api.OK && err != api.ErrLong {
			t.Errorf("14.8: Print(%v) answers %d", s, err)
		}
	}
	if good < 100 {
		t.Errorf("14.8: only %d of the texts were read", good)
	}
}

// 14.7: trees that are too deep, or whose texts are too long.
func TestPrintRefusals(t *testing.T) {
	for n := range 45 {
		for _, kind := range []int{api.ENeg, api.ENot} {
			e := name("a")
			for range n {
				e = of(kind, e)
			}
			if src, err := checkPrint(t, returns(e)); (err == api.ErrNest) != (n >= 40) || err != api.OK && src != "" {
				t.Errorf("14.7: %d signs: %q, %d", n, src, err)
			}
		}
		s := api.Stmt{Kind: api.SSync}
		for range n {
			s = api.Stmt{Kind: api.SWhile, E: num(1), Body: []api.Stmt{s}}
		}
		if src, err := checkPrint(t, function(s)); (err == api.ErrNest) != (n >= 40) || err != api.OK && src != "" {
			t.Errorf("14.7: %d loops: %q, %d", n, src, err)
		}
	}
	for length := 16370; length < 16400; length++ {
		var s api.Source
		for left := length; left > 0; {
			size := min(left, 34)
			if left-size > 0 && left-size < 11 {
				size -= 11
			}
			s.Fns = append(s.Fns, api.Fn{Name: strings.Repeat("f", size-10)})
			left -= size
		}
		if src, err := checkPrint(t, s); err == api.OK && len(src) != length || (err == api.ErrLong) != (length > 16384) {
			t.Errorf("14.7: a text of %d bytes: %d bytes, %d", length, len(src), err)
		}
	}
	// a text that is too long, and too deep as well
	e := name("a")
	for range 17000 {
		e = of(api.ENot, e)
	}
	if src, err := text.Print(returns(e)); src != "" || err != api.ErrLong {
		t.Errorf("14.7: 17000 signs: %q, %d", src, err)
	}
}

// Names that are none, and names.
var (
	noNames = append([]string{"", " ", "1", "9a", "a-b", "a b", " a", "a ", "a\n", "a//", "\u00e9", "a\u00e9", "a\xff", "\x00", "(", "-", "a.b", strings.Repeat("a", 25), strings.Repeat("a", 100000)}, keyNames...)
	names   = []string{"a", "Z", "_", "_1", "f9", "fn_", "FN", "mine", "_if", "for", "func", "var", "and", "or", "not", "in", "then", "end", "join", "fork", "true", "map", "sum", "loop", "wait", "Min", strings.Repeat("_", 24)}
)

func checkTree(t *testing.T, what string, s api.Source, right bool) {
	t.Helper()
	src, err := text.Print(s)
	if (err == api.OK) != right || !right && (err != api.ErrTree || src != "") {
		t.Errorf("14.6: %s: %q, %d", what, src, err)
	}
}

// The fields that the tables of the chapter name for each kind, and how many kids an expression has (-1: any number).
var (
	exprFields = [][]string{api.ENumber: {"K"}, api.EName: {"Name"}, api.ENeg: {}, api.ENot: {}, api.EBinary: {"Op"}, api.ECall: {"Name"}, api.EReduce: {"Name", "Comb"}, api.EEach: {"Name"}, api.EAnd: {}, api.EOr: {}}
	exprKids   = []int{api.ENumber: 0, api.EName: 0, api.ENeg: 1, api.ENot: 1, api.EBinary: 2, api.ECall: -1, api.EReduce: 3, api.EEach: 2, api.EAnd: 2, api.EOr: 2}
	stmtFields = [][]string{api.SLet: {"Name", "E"}, api.SSet: {"Name", "E"}, api.SSpawn: {"Name", "E"}, api.SSync: {}, api.SIf: {"E", "Body", "Else"}, api.SWhile: {"E", "Body"}, api.SDo: {"E"}, api.SReturn: {"E"}, api.SBreak: {}, api.SContinue: {}}
)

func has(fields []string, field string) bool {
	for _, f := range fields {
		if f == field {
			return true
		}
	}
	return false
}

// rightExpr makes an expression of a kind.
func rightExpr(kind int) api.Expr {
	e := api.Expr{Kind: kind}
	for _, field := range exprFields[kind] {
		if field == "Name" || field == "Comb" {
			reflect.ValueOf(&e).Elem().FieldByName(field).SetString("g")
		}
	}
	for range max(exprKids[kind], 0) {
		e.Kids = append(e.Kids, num(1))
	}
	return e
}

// 14.6: each field of each kind of expression with many values, at places deep and shallow.
func TestWhichExpressions(t *testing.T) {
	check := func(what string, e api.Expr, right bool) {
		t.Helper()
		checkTree(t, what, returns(e), right)
		checkTree(t, what, function(api.Stmt{Kind: api.SWhile, E: num(1), Body: []api.Stmt{{Kind: api.SIf, E: of(api.ENot, num(0)), Else: []api.Stmt{{Kind: api.SSpawn, Name: "x", E: call("g", num(1), of(api.ENeg, e), num(2))}}}}}), right)
	}
	for kind, fields := range exprFields {
		check("a right one", rightExpr(kind), true)
		for _, x := range []int{math.MinInt, -1, 0, 1, 15, 16, 17, math.MaxInt} {
			e := rightExpr(kind)
			e.K = int64(x)
			check("K", e, x == 0 || has(fields, "K"))
			e = rightExpr(kind)
			e.Op = x
			check("Op", e, x == 0 || has(fields, "Op") && 0 < x && x < 16)
		}
		for i, n := range append(noNames, names...) {
			right := i >= len(noNames)
			e := rightExpr(kind)
			e.Name = n
			check("Name "+n, e, has(fields, "Name") && right || !has(fields, "Name") && n == "")
			e = rightExpr(kind)
			e.Comb = n
			check("Comb "+n, e, has(fields, "Comb") && right || !has(fields, "Comb") && n == "")
		}
		for kids := range 6 {
			e := rightExpr(kind)
			e.Kids = make([]api.Expr, kids)
			check("Kids", e, exprKids[kind] < 0 || exprKids[kind] == kids)
			for at := range kids {
				spoilt := copyExpr(e)
				spoilt.Kids[at].Op = 1
				check("a wrong kid", spoilt, false)
			}
		}
	}
	for _, kind := range []int{math.MinInt, -1, 10, 11, math.MaxInt} {
		check("no kind", api.Expr{Kind: kind}, false)
		check("no kind", api.Expr{Kind: kind, Name: "a", Kids: []api.Expr{num(1)}}, false)
	}
}

// rightStmt makes a statement of a kind.
func rightStmt(kind int) api.Stmt {
	s := api.Stmt{Kind: kind}
	if has(stmtFields[kind], "Name") {
		s.Name = "x"
	}
	if kind == api.SSpawn {
		s.E = call("g")
	}
	return s
}

// 14.6: each field of each kind of statement with many values, at places deep and shallow.
func TestWhichStatements(t *testing.T) {
	check := func(what string, s api.Stmt, right bool) {
		t.Helper()
		checkTree(t, what, function(s), right)
		checkTree(t, what, function(rightStmt(api.SSync), s, rightStmt(api.SSync)), right)
		checkTree(t, what, function(api.Stmt{Kind: api.SWhile, Body: []api.Stmt{{Kind: api.SIf, Body: []api.Stmt{s}}}}), right)
		checkTree(t, what, function(api.Stmt{Kind: api.SIf, Else: []api.Stmt{rightStmt(api.SIf), s}}), right)
		checkTree(t, what, api.Source{Fns: []api.Fn{{Name: "f"}, {Name: "g", Body: []api.Stmt{s}}}}, right)
	}
	list := []api.Stmt{{Kind: api.SSync}}
	for kind, fields := range stmtFields {
		check("a right one", rightStmt(kind), true)
		for i, n := range append(noNames, names...) {
			s := rightStmt(kind)
			s.Name = n
			check("Name "+n, s, has(fields, "Name") && i >= len(noNames) || !has(fields, "Name") && n == "")
		}
		for other := range exprFields {
			s := rightStmt(kind)
			s.E = rightExpr(other)
			check("E", s, has(fields, "E") && (kind != api.SSpawn || other == api.ECall) || !has(fields, "E") && other == api.ENumber)
		}
		for _, e := range []api.Expr{{K: 1}, {Op: 1}, {Name: "x"}, {Comb: "x"}, {Kind: 10}, {Kids: []api.Expr{{}}}} {
			s := rightStmt(kind)
			s.E = e
			check("a wrong E", s, e.K == 1 && has(fields, "E") && kind != api.SSpawn)
		}
		s := rightStmt(kind)
		s.Body = list
		check("Body", s, has(fields, "Body"))
		s = rightStmt(kind)
		s.Else = list
		check("Else", s, has(fields, "Else"))
		s = rightStmt(kind)
		s.Body, s.Else, s.E.Kids = []api.Stmt{}, []api.Stmt{}, []api.Expr{}
		check("empty lists", s, true)
	}
	for _, kind := range []int{math.MinInt, -1, 10, 11, math.MaxInt} {
		check("no kind", api.Stmt{Kind: kind}, false)
	}
}

// 14.6: functions, their names and parameters.
func TestWhichFunctions(t *testing.T) {
	checkTree(t, "nothing", api.Source{}, false)
	checkTree(t, "no function", api.Source{Fns: []api.Fn{}}, false)
	for i, n := range append(noNames, names...) {
		right := i >= len(noNames)
		checkTree(t, "a function "+n, api.Source{Fns: []api.Fn{{Name: n}}}, right)
		checkTree(t, "a second function "+n, api.Source{Fns: []api.Fn{{Name: "f"}, {Name: n, Params: []string{}, Body: []api.Stmt{}}}}, right)
		checkTree(t, "a parameter "+n, api.Source{Fns: []api.Fn{{Name: "f", Params: []string{n}}}}, right)
		checkTree(t, "a third parameter "+n, api.Source{Fns: []api.Fn{{Name: "f", Params: []string{"a", "a", n, "b"}}}}, right)
	}
}

// 14.6, 14.7, R1: trees as deep, and lists as long, as may be handed in; what is no tree is that however long its text would be.
func TestHugeTrees(t *testing.T) {
	const deep = 60000
	e, sum, wrong := num(1), num(1), api.Expr{Kind: -1}
	inner, other, bad := api.Stmt{Kind: api.SSync}, api.Stmt{Kind: api.SIf}, api.Stmt{Kind: -1}
	for range deep {
		e, wrong = of(api.ENeg, e), of(api.ENeg, wrong)
		sum = bin(api.Add, sum, num(1))
		inner = api.Stmt{Kind: api.SWhile, Body: []api.Stmt{inner}}
		other = api.Stmt{Kind: api.SIf, Else: []api.Stmt{other}}
		bad = api.Stmt{Kind: api.SIf, Body: []api.Stmt{bad}}
	}
	long := call("g", make([]api.Expr, 1<<20)...)
	params := make([]string, 1<<20)
	for i := range params {
		params[i] = strings.Repeat("p", 24)
	}
	wide := api.Fn{Name: "f", Params: params, Body: make([]api.Stmt, 1<<18)}
	for i := range wide.Body {
		wide.Body[i] = api.Stmt{Kind: api.SSync}
	}
	for what, s := range map[string]api.Source{"signs": returns(e), "sums": returns(sum), "loops": function(inner), "ifs": function(other), "arguments": returns(long), "statements": {Fns: []api.Fn{wide}}} {
		if src, err := text.Print(s); src != "" || err != api.ErrLong {
			t.Errorf("14.7: many %s: %d bytes, %d", what, len(src), err)
		}
	}
	long.Kids[1<<20-1].Op = 1
	params[1<<20-1] = "fn"
	for what, s := range map[string]api.Source{"signs": returns(wrong), "ifs": function(bad), "arguments": returns(long), "parameters": {Fns: []api.Fn{wide}}} {
		if src, err := text.Print(s); src != "" || err != api.ErrTree {
			t.Errorf("14.6: many %s around what is wrong: %q, %d", what, src, err)
		}
	}
}
