package gen

import (
	"plunder/api"
	"plunder/asm"
)

func (c *coder) number(e api.Expr, to int) { c.put(asm.Const(to, e.K)) }

func (c *coder) name(e api.Expr, to int) { c.put(asm.Move(to, c.registers[e.Name])) }

func (c *coder) negate(e api.Expr, to int) { c.fromZero(api.Sub, e, to) }

func (c *coder) not(e api.Expr, to int) { c.fromZero(api.Eq, e, to) }

// fromZero writes an operation on 0 and the only kid.
func (c *coder) fromZero(op int, e api.Expr, to int) {
	c.put(asm.Const(to, 0))
	c.expr(e.Kids[0], to+1)
	c.put(asm.Arith(to, to, op, to+1))
}

func (c *coder) binary(e api.Expr, to int) {
	c.kids(e, to)
	c.put(asm.Arith(to, to, e.Op, to+1))
}

// kids writes all kids from the left, their values side by side.
func (c *coder) kids(e api.Expr, to int) {
	for i, kid := range e.Kids {
		c.expr(kid, to+i)
	}
}

func (c *coder) call(e api.Expr, to int) {
	c.kids(e, to)
	c.await(c.whole.numbers[e.Name], to)
}

func (c *coder) reduce(e api.Expr, to int) { c.ranged(e, to) }

func (c *coder) each(e api.Expr, to int) { c.ranged(e, to) }

// ranged calls the function for the range that begins with the index 0.
func (c *coder) ranged(e api.Expr, to int) {
	c.kids(e, to)
	c.put(asm.Const(to+len(e.Kids), 0))
	c.await(c.whole.forRanges(e), to)
}

// await begins a child whose arguments stand from a register on, and waits for its value, which comes into this register.
func (c *coder) await(number, to int) {
	c.put(asm.Spawn(callSlot, number, to), asm.Sync(), asm.Load(to, callSlot))
}

// and needs no register but one: where a value that is 0 ends it, that is its own value.
func (c *coder) and(e api.Expr, to int) {
	c.expr(e.Kids[0], to)
	first := c.put(asm.Branch(to, unknown))
	no := c.put(asm.Jump(unknown))
	c.land(first)
	c.expr(e.Kids[1], to)
	second := c.put(asm.Branch(to, unknown))
	neither := c.put(asm.Jump(unknown))
	c.land(second)
	c.put(asm.Const(to, 1))
	c.land(no, neither)
}

func (c *coder) or(e api.Expr, to int) {
	c.expr(e.Kids[0], to)
	first := c.put(asm.Branch(to, unknown))
	c.expr(e.Kids[1], to)
	second := c.put(asm.Branch(to, unknown))
	no := c.put(asm.Jump(unknown))
	c.land(first, second)
	c.put(asm.Const(to, 1))
	c.land(no)
}
