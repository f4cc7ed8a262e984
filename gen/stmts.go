package gen

import (
	"slices"

	"plunder/api"
	"plunder/asm"
)

func (c *coder) block(body []api.Stmt) {
	for _, s := range body {
		c.stmt(s)
	}
}

func (c *coder) let(s api.Stmt) { c.set(s) }

func (c *coder) set(s api.Stmt) {
	c.expr(s.E, c.free)
	c.put(asm.Move(c.registers[s.Name], c.free))
}

// spawn begins a child and waits for nothing.
func (c *coder) spawn(s api.Stmt) {
	c.kids(s.E, c.free)
	c.put(asm.Spawn(c.slots[s.Name], c.whole.numbers[s.E.Name], c.free))
	c.here.pending = append(slices.Clone(c.here.pending), s.Name)
}

func (c *coder) sync(api.Stmt) {
	c.put(asm.Sync())
	for _, name := range c.here.pending {
		c.put(asm.Load(c.registers[name], c.slots[name]))
	}
	c.here.pending = nil
}

// choose writes the Else ahead of the Body, as a branch is taken where the condition holds.
func (c *coder) choose(s api.Stmt) {
	c.expr(s.E, c.free)
	holds := c.put(asm.Branch(c.free, unknown))
	ahead := c.here
	c.block(s.Else)
	other := c.here
	var over []int
	if other.comes { // else what is behind the Body may be nothing at all
		over = append(over, c.put(asm.Jump(unknown)))
	}
	c.land(holds)
	c.here = ahead
	c.block(s.Body)
	c.land(over...)
	if !c.here.comes {
		c.here = other
	}
}

// repeat writes a while. Behind it the same variables are pending as ahead of it.
func (c *coder) repeat(s api.Stmt) {
	again := c.next()
	c.expr(s.E, c.free)
	holds := c.put(asm.Branch(c.free, unknown))
	out := c.put(asm.Jump(unknown))
	c.land(holds)
	ahead := c.here
	c.whiles = append(c.whiles, around{again: again, out: out})
	c.block(s.Body)
	c.whiles = c.whiles[:len(c.whiles)-1]
	if c.here.comes {
		c.put(asm.Jump(again))
	}
	c.land(out)
	c.here = ahead
}

func (c *coder) do(s api.Stmt) { c.expr(s.E, c.free) }

func (c *coder) giveBack(s api.Stmt) {
	c.expr(s.E, c.free)
	c.put(asm.Return(c.free))
	c.here = point{}
}

// leave goes to the jump that leads out of the while: where that one goes is not known yet.
func (c *coder) leave(api.Stmt) { c.jump(c.innermost().out) }

func (c *coder) goOn(api.Stmt) { c.jump(c.innermost().again) }

func (c *coder) innermost() around { return c.whiles[len(c.whiles)-1] }

func (c *coder) jump(to int) {
	c.put(asm.Jump(to))
	c.here = point{}
}
