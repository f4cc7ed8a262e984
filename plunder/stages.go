package plunder

import (
	"plunder/api"
	"plunder/gen"
	"plunder/mean"
	"plunder/script"
	"plunder/text"
	"plunder/trim"
)

// bench is what the stages work on: each finds there what those ahead of it have made.
type bench struct {
	script, source string
	picked         api.Script
	tree           api.Source
	program        api.Program
}

// stage is one thing that is done on the way to a run: does tells what it finds wrong, and tells is the line about that.
type stage struct {
	name  string
	does  func(*bench) api.Fault
	tells func(name string, f api.Fault) string
}

// stages are those ahead of a run, in their order; each has its own number as its place.
func stages() [api.AtRun]stage {
	return [...]stage{
		api.AtScript: {"script", (*bench).decode, spotLine},
		api.AtText:   {"text", (*bench).parse, spotLine},
		api.AtCheck:  {"source", (*bench).check, faultLine},
		api.AtGen:    {"program", (*bench).compile, faultLine},
	}
}

// work goes through the stages from one of them on, and ends at the first that finds something wrong.
func (b *bench) work(first int) api.Report {
	for n, s := range stages() {
		if n < first {
			continue
		}
		if f := s.does(b); f.Err != api.OK {
			return api.Report{Stage: n, Err: f.Err, Func: f.Func, At: f.At, Line: s.tells(s.name, f)}
		}
	}
	return api.Report{Stage: api.AtGen, Line: programLine(b.program)}
}

func (b *bench) decode() api.Fault {
	s, spot := script.Decode(b.script)
	b.picked = s
	return api.Fault{Err: spot.Err, At: spot.At}
}

func (b *bench) parse() api.Fault {
	s, spot := text.Parse(b.source)
	b.tree = s
	return api.Fault{Err: spot.Err, At: spot.At}
}

func (b *bench) check() api.Fault { return mean.Check(b.tree) }

func (b *bench) compile() api.Fault {
	p, fault := gen.Compile(b.tree)
	if fault.Err != api.OK {
		return fault
	}
	q, err := trim.Trim(p)
	b.program = q
	return api.Fault{Err: err}
}
