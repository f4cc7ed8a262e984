package text

import (
	"plunder/api"
	"plunder/ops"
)

func (r *reader) source() api.Source {
	var s api.Source
	for {
		s.Fns = append(s.Fns, r.function())
		if r.kind == wordEnd {
			return s
		}
	}
}

func (r *reader) function() api.Fn {
	r.take("fn")
	f := api.Fn{Name: r.name()}
	r.list(func() { f.Params = append(f.Params, r.name()) })
	f.Body = r.block(1)
	return f
}

// list reads what stands in parentheses, with commas between.
func (r *reader) list(item func()) {
	r.take("(")
	if r.word() != ")" {
		item()
		for r.word() == "," {
			r.pass()
			item()
		}
	}
	r.take(")")
}

// block reads a block, whose statements have that depth.
func (r *reader) block(depth int) []api.Stmt {
	r.take("{")
	var body []api.Stmt
	for r.word() != "}" && r.kind != wordEnd {
		body = append(body, r.stmt(depth))
	}
	r.take("}")
	return body
}

func (r *reader) stmt(depth int) api.Stmt {
	s := api.Stmt{Kind: r.stmtKind()}
	r.allow(depth)
	if s.Kind != api.SSet { // it has no keyword
		r.pass()
	}
	switch s.Kind {
	case api.SIf:
		r.ifStmt(&s, depth)
		return s
	case api.SWhile:
		s.E = r.expr(depth)
		s.Body = r.block(depth + 1)
		return s
	case api.SLet, api.SSet:
		s.Name = r.name()
		r.take("=")
		s.E = r.expr(depth)
	case api.SSpawn:
		s.Name = r.name()
		r.take("=")
		s.E = r.call(r.name(), depth)
	case api.SDo, api.SReturn:
		s.E = r.expr(depth)
	}
	r.take(";")
	return s
}

// stmtKind tells which kind of statement begins here.
func (r *reader) stmtKind() int {
	switch r.word() {
	case "let":
		return api.SLet
	case "spawn":
		return api.SSpawn
	case "sync":
		return api.SSync
	case "if":
		return api.SIf
	case "while":
		return api.SWhile
	case "do":
		return api.SDo
	case "return":
		return api.SReturn
	case "break":
		return api.SBreak
	case "continue":
		return api.SContinue
	}
	if r.kind != wordName {
		r.giveUp(api.ErrSyntax)
	}
	return api.SSet
}

// ifStmt reads what stands behind the word if.
func (r *reader) ifStmt(s *api.Stmt, depth int) {
	s.E = r.expr(depth)
	s.Body = r.block(depth + 1)
	if r.word() != "else" {
		return
	}
	r.pass()
	if r.word() == "if" {
		s.Else = []api.Stmt{r.stmt(depth + 1)}
	} else {
		s.Else = r.block(depth + 1)
	}
}

func (r *reader) expr(depth int) api.Expr { return r.binary(loosest, depth) }

// binary reads operands of a level, with the signs of that level between.
func (r *reader) binary(own, depth int) api.Expr {
	if own > tightest {
		return r.unary(depth)
	}
	e := r.binary(own+1, depth)
	for level(r.word()) == own {
		sign := r.word()
		r.pass()
		e = joined(sign, e, r.binary(own+1, depth))
	}
	return e
}

// joined makes one expression of two with a binary sign between.
func joined(sign string, left, right api.Expr) api.Expr {
	e := api.Expr{Kids: []api.Expr{left, right}}
	switch sign {
	case "&&":
		e.Kind = api.EAnd
	case "||":
		e.Kind = api.EOr
	default:
		e.Kind, e.Op = api.EBinary, ops.Find(sign)
	}
	return e
}

func (r *reader) unary(depth int) api.Expr {
	switch r.word() {
	case "-":
		r.allow(depth + 1)
		r.passMinus()
		if r.kind == wordNumber {
			return r.number(r.minus)
		}
		return api.Expr{Kind: api.ENeg, Kids: []api.Expr{r.unary(depth + 1)}}
	case "!":
		r.allow(depth + 1)
		r.pass()
		return api.Expr{Kind: api.ENot, Kids: []api.Expr{r.unary(depth + 1)}}
	}
	return r.primary(depth)
}

func (r *reader) primary(depth int) api.Expr {
	switch word := r.word(); word {
	case "(":
		return r.inner(depth)
	case "min", "max":
		_, kids := r.form(0, 2, depth)
		return api.Expr{Kind: api.EBinary, Op: ops.Find(word), Kids: kids}
	case "reduce":
		names, kids := r.form(2, 3, depth)
		return api.Expr{Kind: api.EReduce, Name: names[0], Comb: names[1], Kids: kids}
	case "each":
		names, kids := r.form(1, 2, depth)
		return api.Expr{Kind: api.EEach, Name: names[0], Kids: kids}
	}
	if r.kind == wordName {
		return r.named(depth)
	}
	return r.number(-r.minus)
}

// inner reads an expression in plain parentheses.
func (r *reader) inner(depth int) api.Expr {
	r.allow(depth + 1)
	r.pass()
	e := r.expr(depth + 1)
	r.take(")")
	return e
}

// form reads a keyword and what stands in its parentheses: so many names, and then so many expressions.
func (r *reader) form(names, kids, depth int) ([]string, []api.Expr) {
	r.allow(depth + 1)
	r.pass()
	r.take("(")
	var called []string
	for range names {
		called = append(called, r.name())
		r.take(",")
	}
	list := []api.Expr{r.expr(depth + 1)}
	for range kids - 1 {
		r.take(",")
		list = append(list, r.expr(depth+1))
	}
	r.take(")")
	return called, list
}

// named reads a variable or a call.
func (r *reader) named(depth int) api.Expr {
	name := r.name()
	if r.word() != "(" {
		return api.Expr{Kind: api.EName, Name: name}
	}
	r.allow(depth + 1)
	return r.call(name, depth+1)
}

// call reads what stands behind the name of a call. Its arguments have that depth.
func (r *reader) call(name string, depth int) api.Expr {
	e := api.Expr{Kind: api.ECall, Name: name}
	r.list(func() { e.Kids = append(e.Kids, r.expr(depth)) })
	return e
}
