package gen

import (
	"plunder/api"
	"plunder/asm"
)

// callSlot is the slot of all that is waited for at once. Behind it come those of the variables that a spawn names.
const callSlot = 0

// coder compiles one function of a source.
type coder struct {
	listing
	whole     *whole
	stmt      func(s api.Stmt)         // compiles a statement as the table says
	expr      func(e api.Expr, to int) // and an expression: its value comes into the register to, and those behind it are free
	registers map[string]int           // by the names of the variables
	slots     map[string]int           // by the names of those that a spawn names
	free      int                      // the first register that is no variable's
	here      point
	whiles    []around // the innermost last
}

// point tells whether the next place may be come to, and which variables are pending there.
type point struct {
	comes   bool
	pending []string // never written into: points share it
}

// around is a while around a statement: the places to which a continue and a break go.
type around struct{ again, out int }

// The methods by kind. They call one another through the coder's fields: a table must not hang on itself.
var (
	stmtCoders = [...]func(*coder, api.Stmt){
		api.SLet:      (*coder).let,
		api.SSet:      (*coder).set,
		api.SSpawn:    (*coder).spawn,
		api.SSync:     (*coder).sync,
		api.SIf:       (*coder).choose,
		api.SWhile:    (*coder).repeat,
		api.SDo:       (*coder).do,
		api.SReturn:   (*coder).giveBack,
		api.SBreak:    (*coder).leave,
		api.SContinue: (*coder).goOn,
	}
	exprCoders = [...]func(*coder, api.Expr, int){
		api.ENumber: (*coder).number,
		api.EName:   (*coder).name,
		api.ENeg:    (*coder).negate,
		api.ENot:    (*coder).not,
		api.EBinary: (*coder).binary,
		api.ECall:   (*coder).call,
		api.EReduce: (*coder).reduce,
		api.EEach:   (*coder).each,
		api.EAnd:    (*coder).and,
		api.EOr:     (*coder).or,
	}
)

func newCoder(w *whole, fn api.Fn) *coder {
	c := &coder{whole: w, registers: map[string]int{}, slots: map[string]int{}, here: point{comes: true}}
	c.stmt = func(s api.Stmt) { stmtCoders[s.Kind](c, s) }
	c.expr = func(e api.Expr, to int) { exprCoders[e.Kind](c, e, to) }
	for _, name := range fn.Params {
		c.registers[name] = len(c.registers)
	}
	c.place(fn.Body)
	c.free = len(c.registers)
	return c
}

// place gives the variables of statements their registers and slots. It goes ahead of all code, which is not written in the order of the text.
func (c *coder) place(body []api.Stmt) {
	for _, s := range body {
		switch s.Kind {
		case api.SLet:
			c.registers[s.Name] = len(c.registers)
		case api.SSpawn:
			if _, found := c.slots[s.Name]; !found {
				c.slots[s.Name] = callSlot + 1 + len(c.slots)
			}
		}
		c.place(s.Body)
		c.place(s.Else)
	}
}

// compiled is a function of a right source as one of the program.
func compiled(w *whole, fn api.Fn) api.Func {
	c := newCoder(w, fn)
	c.block(fn.Body)
	return asm.Func(len(fn.Params), c.free+api.MaxTemps, callSlot+1+len(c.slots), c.code...)
}
