package plunder

import (
	"strings"

	"plunder/api"
	"plunder/ops"
)

// line puts a line together of its parts.
func line(parts ...string) string { return strings.Join(parts, "") }

func number[N ~int | ~int64](n N) string { return ops.Format(int64(n)) }

// spotLine is the line about something wrong in a text.
func spotLine(name string, f api.Fault) string {
	return line(name, ": error ", number(f.Err), " at ", number(f.At))
}

// faultLine is the line about something wrong in a function.
func faultLine(name string, f api.Fault) string {
	return line(name, ": error ", number(f.Err), " in ", number(f.Func), " at ", number(f.At))
}

func programLine(p api.Program) string {
	n := 0
	for _, f := range p.Funcs {
		n += len(f.Code)
	}
	return line("program: ", number(len(p.Funcs)), " functions, ", number(n), " instructions")
}

func runLine(o api.Outcome, v api.Value) string {
	return line(outcomeLine(o), serialLine(v))
}

func outcomeLine(o api.Outcome) string {
	switch o.Kind {
	case api.OutDone:
		return line("done ", number(o.Value), " after ", number(o.Steps), " steps")
	case api.OutFull:
		return line("full after ", number(o.Steps), " steps")
	case api.OutEnded:
		return line("ended after ", number(o.Steps), " steps")
	}
	return line("malformed: error ", number(o.Err))
}

// serialLine is empty for a serial run that is not told: one that is told has work.
func serialLine(v api.Value) string {
	if v.Work == 0 {
		return ""
	}
	return line("; serial ", number(v.V), ", work ", number(v.Work), ", tasks ", number(v.Tasks), ", depth ", number(v.Depth), ", span ", number(v.Span))
}

func scaleLine(v api.Value) string {
	return line("scale: ", number(v.V), ", work ", number(v.Work), ", span ", number(v.Span), ", parallelism ", number(v.Work/v.Span))
}
