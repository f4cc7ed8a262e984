package text

import (
	"strings"

	"plunder/api"
	"plunder/ops"
)

// written tells the text of a tree. Of one that is too long only the beginning is written, which is too long as well.
func written(s api.Source) string {
	var w writer
	for _, f := range s.Fns {
		w.function(f)
	}
	return w.text.String()
}

// writer writes a text. It drops what comes when there is too much: with the bytes 9 of many blocks a text can be far longer than its tree is large.
type writer struct{ text strings.Builder }

func (w *writer) full() bool { return w.text.Len() > api.MaxSource }

func (w *writer) put(pieces ...string) {
	for _, piece := range pieces {
		if !w.full() {
			w.text.WriteString(piece)
		}
	}
}

// indent begins a line within so many blocks.
func (w *writer) indent(open int) {
	if !w.full() { // else the bytes 9 would be made in vain, for each line anew
		w.put(strings.Repeat("\t", open))
	}
}

func (w *writer) function(f api.Fn) {
	w.put("fn ", f.Name, "(")
	w.names(f.Params)
	w.put(") ")
	w.block(f.Body, 0)
	w.put("\n")
}

// block writes a block that stands within so many others.
func (w *writer) block(body []api.Stmt, open int) {
	w.put("{\n")
	for _, s := range body {
		w.indent(open + 1)
		w.stmt(s, open+1)
		w.put("\n")
	}
	w.indent(open)
	w.put("}")
}

func (w *writer) stmt(s api.Stmt, open int) {
	switch s.Kind {
	case api.SIf:
		w.ifStmt(s, open)
	case api.SWhile:
		w.put("while ")
		w.expr(s.E)
		w.put(" ")
		w.block(s.Body, open)
	default:
		w.simple(s)
		w.put(";")
	}
}

// simple writes a statement without blocks, up to its semicolon.
func (w *writer) simple(s api.Stmt) {
	switch s.Kind {
	case api.SLet:
		w.put("let ", s.Name, " = ")
	case api.SSet:
		w.put(s.Name, " = ")
	case api.SSpawn:
		w.put("spawn ", s.Name, " = ")
	case api.SDo:
		w.put("do ")
	case api.SReturn:
		w.put("return ")
	case api.SSync:
		w.put("sync")
	case api.SBreak:
		w.put("break")
	case api.SContinue:
		w.put("continue")
	}
	if stmtShapes[s.Kind].expr {
		w.expr(s.E)
	}
}

// ifStmt writes an if, and goes on with the one that is all of its Else, if there is one.
func (w *writer) ifStmt(s api.Stmt, open int) {
	for {
		w.put("if ")
		w.expr(s.E)
		w.put(" ")
		w.block(s.Body, open)
		if len(s.Else) == 0 {
			return
		}
		w.put(" else ")
		if len(s.Else) != 1 || s.Else[0].Kind != api.SIf {
			w.block(s.Else, open)
			return
		}
		s = s.Else[0]
	}
}

func (w *writer) expr(e api.Expr) {
	if own := levelOf(e); own != noLevel {
		left, right := levelOf(e.Kids[0]), levelOf(e.Kids[1])
		w.operand(e.Kids[0], left != noLevel && left < own)
		w.put(" ", signOf(e), " ")
		w.operand(e.Kids[1], right != noLevel && right <= own)
		return
	}
	switch e.Kind {
	case api.ENumber:
		w.put(ops.Format(e.K))
	case api.EName:
		w.put(e.Name)
	case api.ENeg:
		kid := e.Kids[0]
		w.put("-")
		w.operand(kid, levelOf(kid) != noLevel || kid.Kind == api.ENumber && kid.K >= 0)
	case api.ENot:
		w.put("!")
		w.operand(e.Kids[0], levelOf(e.Kids[0]) != noLevel)
	case api.EBinary:
		w.call(ops.Name(e.Op), e.Kids)
	case api.ECall:
		w.call(e.Name, e.Kids)
	case api.EReduce:
		w.call("reduce", e.Kids, e.Name, e.Comb)
	case api.EEach:
		w.call("each", e.Kids, e.Name)
	}
}

// operand writes an expression, in parentheses where they are needed.
func (w *writer) operand(e api.Expr, needed bool) {
	if !needed {
		w.expr(e)
		return
	}
	w.put("(")
	w.expr(e)
	w.put(")")
}

func (w *writer) names(names []string) {
	for i, name := range names {
		if i > 0 {
			w.put(", ")
		}
		w.put(name)
	}
}

// call writes what has parentheses behind a word, with names and expressions in them.
func (w *writer) call(word string, kids []api.Expr, names ...string) {
	w.put(word, "(")
	w.names(names)
	for i, kid := range kids {
		if i > 0 || len(names) > 0 {
			w.put(", ")
		}
		w.expr(kid)
	}
	w.put(")")
}

// signOf tells the word between the kids of an expression, or ahead of them for min and max; "" for one that is not binary.
func signOf(e api.Expr) string {
	switch e.Kind {
	case api.EAnd:
		return "&&"
	case api.EOr:
		return "||"
	case api.EBinary:
		return ops.Name(e.Op)
	}
	return ""
}

func levelOf(e api.Expr) int { return level(signOf(e)) }
