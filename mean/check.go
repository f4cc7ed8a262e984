package mean

import (
	"maps"

	"plunder/api"
)

// checkFunctions holds the functions' names against 15.4.
func checkFunctions(s api.Source) {
	if s.Fns[0].Name != "main" {
		giveUp(api.Fault{Err: api.ErrMain})
	}
	taken := map[string]mark{}
	for f, fn := range s.Fns {
		_, twice := taken[fn.Name]
		if twice || len(distinct(fn.Params)) < len(fn.Params) {
			giveUp(api.Fault{Err: api.ErrTwice, Func: f})
		}
		taken[fn.Name] = mark{}
	}
}

// checkStatements holds the functions' bodies against 15.5 to 15.7.
func checkStatements(s api.Source) {
	params := map[string]int{}
	for _, fn := range s.Fns {
		params[fn.Name] = len(fn.Params)
	}
	for f, fn := range s.Fns {
		c := checker{params: params, fn: f, known: distinct(fn.Params), here: beginning(fn)}
		c.block(fn.Body)
		c.at = c.begun // the end has the number of a statement that would follow
		c.refuse(c.here.comes, api.ErrNoEnd)
	}
}

// point is what is known at a point of a function: whether it may be come to, and how the variables stand there if it may.
type point struct {
	comes bool
	vars  vars[mark]
}

// beginning is the point at which a function begins.
func beginning(fn api.Fn) point {
	p := point{comes: true, vars: newVars[mark]()}
	for _, name := range fn.Params {
		p.vars.put(name, mark{})
	}
	return p
}

func (p point) copied() point { return point{comes: p.comes, vars: p.vars.copied()} }

// samePending tells whether the same variables are pending at both points, if both may be come to.
func samePending(a, b point) bool {
	return !a.comes || !b.comes || maps.Equal(a.vars.pending, b.vars.pending)
}

// joined is the point at which two paths come together, at whose ends the same variables are pending. It changes what is a's.
func joined(a, b point) point {
	if !a.comes {
		return b
	}
	if b.comes {
		maps.DeleteFunc(a.vars.values, func(name string, _ mark) bool {
			_, both := b.vars.values[name]
			return !both
		})
	}
	return a
}

// checker goes through the statements of one function in their numbering.
type checker struct {
	params map[string]int  // by the functions' names: how many they have
	fn     int             // this function's number
	known  map[string]mark // the variables that are known here
	begun  int             // how many statements it has come to
	at     int             // the number of the one that it is about
	here   point
	whiles []point // the points ahead of the whiles around, the innermost last
}

// refuse gives up, if a rule of the statement is broken.
func (c *checker) refuse(broken bool, err api.Errno) {
	if broken {
		giveUp(api.Fault{Err: err, Func: c.fn, At: c.at})
	}
}

func (c *checker) block(body []api.Stmt) {
	for _, s := range body {
		c.stmt(s)
	}
}

func (c *checker) stmt(s api.Stmt) {
	c.at = c.begun
	c.begun++
	c.refuse(!c.here.comes, api.ErrFlow)
	switch s.Kind {
	case api.SLet:
		c.let(s)
	case api.SSet:
		c.target(s.Name)
		c.expr(s.E)
		c.here.vars.put(s.Name, mark{})
	case api.SSpawn:
		c.target(s.Name)
		c.expr(s.E)
		c.here.vars.spawn(s.Name, mark{})
	case api.SSync:
		c.here.vars.sync()
	case api.SIf:
		c.branches(s)
	case api.SWhile:
		c.loop(s)
	case api.SDo:
		c.expr(s.E)
	case api.SReturn:
		c.expr(s.E)
		c.refuse(len(c.here.vars.pending) > 0, api.ErrLate)
		c.here = point{}
	case api.SBreak, api.SContinue:
		c.jump()
	}
}

func (c *checker) let(s api.Stmt) {
	c.refuse(c.knows(s.Name), api.ErrTwice)
	c.expr(s.E)
	c.known[s.Name] = mark{} // only now: in its own expression it is not known
	c.here.vars.put(s.Name, mark{})
}

// branches looks at an if, both of whose blocks begin at the point ahead of it.
func (c *checker) branches(s api.Stmt) {
	c.expr(s.E)
	at, ahead := c.at, c.here.copied()
	c.block(s.Body)
	body := c.here
	c.here = ahead
	c.block(s.Else)
	c.at = at
	c.refuse(!samePending(body, c.here), api.ErrPending)
	c.here = joined(body, c.here)
}

// loop looks at a while. Behind it all is as ahead of it, since its body may never have been come to.
func (c *checker) loop(s api.Stmt) {
	c.expr(s.E)
	at, ahead := c.at, c.here.copied()
	c.whiles = append(c.whiles, ahead)
	c.block(s.Body)
	c.whiles = c.whiles[:len(c.whiles)-1]
	c.at = at
	c.refuse(!samePending(ahead, c.here), api.ErrPending)
	c.here = ahead
}

// jump looks at a break or a continue.
func (c *checker) jump() {
	c.refuse(len(c.whiles) == 0, api.ErrFlow)
	c.refuse(!samePending(c.whiles[len(c.whiles)-1], c.here), api.ErrPending)
	c.here = point{}
}

func (c *checker) expr(e api.Expr) {
	switch e.Kind {
	case api.EName:
		c.target(e.Name)
		_, set := c.here.vars.values[e.Name]
		c.refuse(!set, api.ErrUnset)
	case api.ECall:
		c.callee(e.Name, len(e.Kids))
	case api.EReduce:
		c.callee(e.Name, 1)
		c.callee(e.Comb, 2)
	case api.EEach:
		c.callee(e.Name, 1)
	}
	for _, kid := range e.Kids {
		c.expr(kid)
	}
}

// target looks at a variable that is to be set, spawned or read.
func (c *checker) target(name string) {
	c.refuse(!c.knows(name), api.ErrUnknown)
	_, pending := c.here.vars.pending[name]
	c.refuse(pending, api.ErrPending)
}

func (c *checker) knows(name string) bool {
	_, known := c.known[name]
	return known
}

// callee looks at a function that is to be called with so many arguments.
func (c *checker) callee(name string, args int) {
	params, found := c.params[name]
	c.refuse(!found, api.ErrUnknown)
	c.refuse(params != args, api.ErrCount2)
}
