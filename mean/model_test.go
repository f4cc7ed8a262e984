package mean_test

import (
	"slices"

	"plunder/api"
	"plunder/text"
)

// What Check has to answer, by the chapter's words. (What is a tree is chapter 14's business.)
func modelCheck(s api.Source) api.Fault {
	if _, err := text.Print(s); err == api.ErrTree {
		return api.Fault{Err: api.ErrTree}
	}
	if len(s.Fns) > 12 || modelLoops(s) > 5 {
		return api.Fault{Err: api.ErrSize}
	}
	for f, fn := range s.Fns {
		if modelTooGreat(fn) {
			return api.Fault{Err: api.ErrSize, Func: f}
		}
	}
	if s.Fns[0].Name != "main" {
		return api.Fault{Err: api.ErrMain}
	}
	for f, fn := range s.Fns {
		if repeats(fn.Params) || slices.ContainsFunc(s.Fns[:f], func(g api.Fn) bool { return g.Name == fn.Name }) {
			return api.Fault{Err: api.ErrTwice, Func: f}
		}
	}
	for f, fn := range s.Fns {
		if err, at := modelFunction(s, fn); err != api.OK {
			return api.Fault{Err: err, Func: f, At: at}
		}
	}
	return api.Fault{}
}

func repeats(names []string) bool {
	for i, name := range names {
		if slices.Contains(names[:i], name) {
			return true
		}
	}
	return false
}

// numbered lists a function's statements by their numbers.
func numbered(body []api.Stmt) []*api.Stmt {
	var all []*api.Stmt
	for i := range body {
		all = append(all, &body[i])
		all = append(all, numbered(body[i].Body)...)
		all = append(all, numbered(body[i].Else)...)
	}
	return all
}

func hasExpr(s *api.Stmt) bool {
	return !slices.Contains([]int{api.SSync, api.SBreak, api.SContinue}, s.Kind)
}

func modelParts(e api.Expr) []api.Expr {
	all := []api.Expr{e}
	for _, kid := range e.Kids {
		all = append(all, modelParts(kid)...)
	}
	return all
}

func modelLoops(s api.Source) int {
	reduces, eaches := map[[2]string]bool{}, map[string]bool{}
	for _, fn := range s.Fns {
		for _, stmt := range numbered(fn.Body) {
			for _, e := range modelParts(stmt.E) {
				switch e.Kind {
				case api.EReduce:
					reduces[[2]string{e.Name, e.Comb}] = true
				case api.EEach:
					eaches[e.Name] = true
				}
			}
		}
	}
	return len(reduces) + len(eaches)
}

func modelNeed(e api.Expr) int {
	var needs []int
	for _, kid := range e.Kids {
		needs = append(needs, modelNeed(kid))
	}
	behindEachOther := func(least int) int {
		for i, n := range needs {
			least = max(least, i+n)
		}
		return least
	}
	switch e.Kind {
	case api.ENumber, api.EName:
		return 1
	case api.ENeg, api.ENot:
		return 1 + needs[0]
	case api.EBinary:
		return max(needs[0], 1+needs[1])
	case api.EAnd, api.EOr:
		return max(needs[0], needs[1])
	case api.EReduce:
		return behindEachOther(4)
	case api.EEach:
		return behindEachOther(3)
	}
	return behindEachOther(1)
}

func modelTooGreat(fn api.Fn) bool {
	names, pend := map[string]bool{}, map[string]bool{}
	for _, p := range fn.Params {
		names[p] = true
	}
	size, great := 0, false
	for _, s := range numbered(fn.Body) {
		size++
		if s.Kind == api.SLet {
			names[s.Name] = true
		}
		if s.Kind == api.SSpawn {
			pend[s.Name] = true
		}
		if !hasExpr(s) {
			continue
		}
		for _, e := range modelParts(s.E) {
			size++
			great = great || modelNeed(e) > 8
		}
	}
	return great || size > 60 || len(names) > 8 || len(pend) > 7
}

// state tells of each variable that is not unset what it is. It is nil where a function does not come to.
type state map[string]string

func (s state) with(x, what string) state {
	t := state{}
	for y, is := range s {
		t[y] = is
	}
	t[x] = what
	return t
}

func (s state) pending() []string {
	var all []string
	for x, is := range s {
		if is == "pending" {
			all = append(all, x)
		}
	}
	slices.Sort(all)
	return all
}

func (s state) synced() state {
	t := state{}
	for x := range s {
		t[x] = "set"
	}
	return t
}

// modelled is a function that is looked at.
type modelled struct {
	s     api.Source
	fn    api.Fn
	stmts []*api.Stmt
}

func modelFunction(s api.Source, fn api.Fn) (api.Errno, int) {
	m := modelled{s, fn, numbered(fn.Body)}
	begin := state{}
	for _, p := range fn.Params {
		begin[p] = "set"
	}
	end, err, at := m.block(fn.Body, begin, nil)
	if err == api.OK && end != nil {
		return api.ErrNoEnd, len(m.stmts)
	}
	return err, at
}

// known tells whether a name is known in the statement with a number.
func (m modelled) known(x string, at int) bool {
	for _, s := range m.stmts[:at] {
		if s.Kind == api.SLet && s.Name == x {
			return true
		}
	}
	return slices.Contains(m.fn.Params, x)
}

func (m modelled) block(body []api.Stmt, here, loop state) (state, api.Errno, int) {
	for i := range body {
		end, err, at := m.stmt(&body[i], here, loop)
		if err != api.OK {
			return nil, err, at
		}
		here = end
	}
	return here, api.OK, 0
}

// stmt tells the state behind a statement. The loop is the state ahead of the innermost while around it.
func (m modelled) stmt(s *api.Stmt, here, loop state) (end state, err api.Errno, at int) {
	at = slices.Index(m.stmts, s)
	if here == nil {
		return nil, api.ErrFlow, at
	}
	switch s.Kind {
	case api.SLet:
		if m.known(s.Name, at) {
			return nil, api.ErrTwice, at
		}
	case api.SSet, api.SSpawn:
		if err := m.target(s.Name, at, here); err != api.OK {
			return nil, err, at
		}
	}
	if hasExpr(s) {
		if err := m.expr(s.E, at, here); err != api.OK {
			return nil, err, at
		}
	}
	switch s.Kind {
	case api.SLet, api.SSet:
		return here.with(s.Name, "set"), api.OK, 0
	case api.SSpawn:
		return here.with(s.Name, "pending"), api.OK, 0
	case api.SSync:
		return here.synced(), api.OK, 0
	case api.SReturn:
		if len(here.pending()) > 0 {
			return nil, api.ErrLate, at
		}
		return nil, api.OK, 0
	case api.SIf:
		return m.branches(s, at, here, loop)
	case api.SWhile:
		end, err, place := m.block(s.Body, here, here)
		if err != api.OK {
			return nil, err, place
		}
		if end != nil && !slices.Equal(end.pending(), here.pending()) {
			return nil, api.ErrPending, at
		}
	case api.SBreak, api.SContinue:
		if loop == nil {
			return nil, api.ErrFlow, at
		}
		if !slices.Equal(here.pending(), loop.pending()) {
			return nil, api.ErrPending, at
		}
		return nil, api.OK, 0
	}
	return here, api.OK, 0
}

func (m modelled) branches(s *api.Stmt, at int, here, loop state) (state, api.Errno, int) {
	body, err, place := m.block(s.Body, here, loop)
	if err != api.OK {
		return nil, err, place
	}
	other, err, place := m.block(s.Else, here, loop)
	if err != api.OK {
		return nil, err, place
	}
	if body == nil || other == nil {
		for _, end := range []state{body, other} {
			if end != nil {
				return end, api.OK, 0
			}
		}
		return nil, api.OK, 0
	}
	if !slices.Equal(body.pending(), other.pending()) {
		return nil, api.ErrPending, at
	}
	end := state{}
	for x, is := range body {
		if other[x] == is {
			end[x] = is
		}
	}
	return end, api.OK, 0
}

func (m modelled) target(x string, at int, here state) api.Errno {
	switch {
	case !m.known(x, at):
		return api.ErrUnknown
	case here[x] == "pending":
		return api.ErrPending
	}
	return api.OK
}

// takes tells what is wrong with a function of that name that is to have so many parameters.
func (m modelled) takes(name string, params int) api.Errno {
	for _, fn := range m.s.Fns {
		if fn.Name == name && len(fn.Params) == params {
			return api.OK
		} else if fn.Name == name {
			return api.ErrCount2
		}
	}
	return api.ErrUnknown
}

func (m modelled) expr(e api.Expr, at int, here state) api.Errno {
	var errs []api.Errno
	switch e.Kind {
	case api.EName:
		errs = append(errs, m.target(e.Name, at, here))
		if here[e.Name] == "" {
			errs = append(errs, api.ErrUnset)
		}
	case api.ECall:
		errs = append(errs, m.takes(e.Name, len(e.Kids)))
	case api.EReduce:
		errs = append(errs, m.takes(e.Name, 1), m.takes(e.Comb, 2))
	case api.EEach:
		errs = append(errs, m.takes(e.Name, 1))
	}
	for _, kid := range e.Kids {
		errs = append(errs, m.expr(kid, at, here))
	}
	for _, err := range errs {
		if err != api.OK {
			return err
		}
	}
	return api.OK
}
