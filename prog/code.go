package prog

import "plunder/api"

// What a field of an instruction has to be.
const (
	anything = iota
	aRegister
	aSlot
	aPlace
	aFunction
	arguments // the first of as many registers as the spawned function has parameters
	anOperation
)

// form is what the fields of a kind of instructions are, and whether the next instruction may follow. Where one may go besides is told by the fields that are places.
type form struct {
	a, b, c, k int
	next       bool
}

var forms = [...]form{
	api.IConst:  {a: aRegister, next: true},
	api.IMove:   {a: aRegister, b: aRegister, next: true},
	api.IArith:  {a: aRegister, b: aRegister, c: aRegister, k: anOperation, next: true},
	api.IJump:   {a: aPlace},
	api.IBranch: {a: aRegister, b: aPlace, next: true},
	api.ISpawn:  {a: aSlot, b: aFunction, c: arguments, next: true},
	api.ISync:   {next: true},
	api.ILoad:   {a: aRegister, b: aSlot, next: true},
	api.IPed:    {a: aRegister, next: true},
	api.IReturn: {a: aRegister},
}

// code is a function whose code is looked at, with the functions that it may spawn. Alone, it may spawn anything.
type code struct {
	number  int
	f       api.Func
	callees []api.Func
	alone   bool
}

// checkShapes looks at the sizes of all functions.
func checkShapes(funcs []api.Func) {
	if len(funcs) < 1 || len(funcs) > api.MaxFuncs {
		giveUp(api.ErrFuncs, 0, 0)
	}
	for number, f := range funcs {
		checkShape(number, f)
	}
}

func checkShape(number int, f api.Func) {
	switch {
	case f.Params < 0 || f.Params > api.MaxParams,
		f.Regs < 1 || f.Regs < f.Params || f.Regs > api.MaxRegs,
		f.Slots < 0 || f.Slots > api.MaxSlots,
		len(f.Code) < 1 || len(f.Code) > api.MaxCode:
		giveUp(api.ErrShape, number, 0)
	}
}

// sound tells whether a function is right as far as can be told without the program around it.
func sound(f api.Func) (right bool) {
	defer func() { right = caught(recover()).Err == api.OK }()
	checkShape(0, f)
	code{f: f, alone: true}.check()
	return true
}

// check looks at all instructions of a function that has a right shape.
func (c code) check() {
	for at, i := range c.f.Code {
		if !c.fits(i) {
			giveUp(api.ErrInstr, c.number, at)
		}
	}
	last := len(c.f.Code) - 1
	if forms[c.f.Code[last].Kind].next {
		giveUp(api.ErrEnd, c.number, last)
	}
}

// fits tells whether an instruction may be.
func (c code) fits(i api.Instr) bool {
	if !below(i.Kind, len(forms)) {
		return false
	}
	is := forms[i.Kind]
	if is.k == anOperation && (i.K < 0 || i.K >= api.NumOps) {
		return false
	}
	return c.allows(is.a, i.A, i) && c.allows(is.b, i.B, i) && c.allows(is.c, i.C, i)
}

// allows tells whether a field of an instruction i, which has to be what, may hold x.
func (c code) allows(what, x int, i api.Instr) bool {
	switch what {
	case aRegister:
		return below(x, c.f.Regs)
	case aSlot:
		return below(x, c.f.Slots)
	case aPlace:
		return below(x, len(c.f.Code))
	case aFunction:
		return c.alone || below(x, len(c.callees))
	case arguments:
		// The function stands in an earlier field: it was allowed ahead of this one.
		return c.alone || c.holds(x, c.callees[i.B].Params)
	}
	return true
}

// holds tells whether there are n registers from first on. As it only takes away, no number can run over.
func (c code) holds(first, n int) bool {
	return n == 0 || first >= 0 && n <= c.f.Regs-first
}
