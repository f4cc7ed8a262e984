package plunder_test

import (
	"fmt"

	"plunder/api"
	"plunder/gen"
	"plunder/machine"
	"plunder/mean"
	"plunder/script"
	"plunder/serial"
	"plunder/text"
	"plunder/trim"
)

// wordsBuild is 20.1 by its words.
func wordsBuild(source string) (api.Program, api.Report) {
	s, spot := text.Parse(source)
	if spot.Err != api.OK {
		return api.Program{}, api.Report{Stage: api.AtText, Err: spot.Err, At: spot.At, Line: fmt.Sprintf("text: error %d at %d", spot.Err, spot.At)}
	}
	if f := mean.Check(s); f.Err != api.OK {
		return api.Program{}, api.Report{Stage: api.AtCheck, Err: f.Err, Func: f.Func, At: f.At, Line: fmt.Sprintf("source: error %d in %d at %d", f.Err, f.Func, f.At)}
	}
	compiled, _ := gen.Compile(s)
	p, _ := trim.Trim(compiled)
	n := 0
	for _, f := range p.Funcs {
		n += len(f.Code)
	}
	return p, api.Report{Stage: api.AtGen, Line: fmt.Sprintf("program: %d functions, %d instructions", len(p.Funcs), n)}
}

// wordsExec is 20.2 by its words.
func wordsExec(source string, args []int64, workers int, lim api.Limits, orders string) api.Report {
	s, spot := script.Decode(orders)
	if spot.Err != api.OK {
		return api.Report{Stage: api.AtScript, Err: spot.Err, At: spot.At, Line: fmt.Sprintf("script: error %d at %d", spot.Err, spot.At)}
	}
	p, r := wordsBuild(source)
	if r.Err != api.OK {
		return r
	}
	o := machine.Run(p, args, workers, lim, s)
	r = api.Report{Stage: api.AtRun, Err: o.Err, Outcome: o}
	r.Line = map[int]string{
		api.OutMalformed: fmt.Sprintf("malformed: error %d", o.Err),
		api.OutDone:      fmt.Sprintf("done %d after %d steps", o.Value, o.Steps),
		api.OutFull:      fmt.Sprintf("full after %d steps", o.Steps),
		api.OutEnded:     fmt.Sprintf("ended after %d steps", o.Steps),
	}[o.Kind]
	if v, err := serial.Eval(p, args, 65536); err == api.OK {
		r.Serial = v
		r.Line += fmt.Sprintf("; serial %d, work %d, tasks %d, depth %d, span %d", v.V, v.Work, v.Tasks, v.Depth, v.Span)
	}
	return r
}

// wordsScale is 20.5 and 20.6 by their words.
func wordsScale(source string, args []int64, most int, lim api.Limits, draws []int) ([]api.Row, api.Report) {
	p, r := wordsBuild(source)
	if r.Err != api.OK {
		return nil, r
	}
	r = api.Report{Stage: api.AtRun}
	v, err := serial.Eval(p, args, 65536)
	switch {
	case len(draws) > 1<<20:
		r.Err = api.ErrLong
	case len(args) != p.Funcs[0].Params:
		r.Err = api.ErrArity
	case most < 1 || most > 64:
		r.Err = api.ErrWorkers
	case lim.Frames < 1 || lim.Frames > 4096 || lim.First < 1 || lim.First > lim.Most || lim.Most > 4096:
		r.Err = api.ErrLimits
	case err != api.OK:
		r.Err = err
	case v.Tasks > lim.Frames || v.Tasks > lim.Most:
		r.Err = api.ErrLimit
	case machine.Bound(v.Work, v.Tasks, most, most) > 1<<20:
		r.Err = api.ErrLong
	}
	if r.Err != api.OK {
		r.Line = fmt.Sprintf("scale: error %d", r.Err)
		return nil, r
	}
	r.Serial = v
	r.Line = fmt.Sprintf("scale: %d, work %d, span %d, parallelism %d", v.V, v.Work, v.Span, v.Work/v.Span)
	var rows []api.Row
	for workers := 1; workers <= most; workers++ {
		o := machine.Run(p, args, workers, lim, api.Script{Picks: inTurn(workers, machine.Bound(v.Work, v.Tasks, workers, workers)), Draws: draws})
		x := api.Row{Workers: workers, Steps: o.Steps, Steals: o.Steals, Waits: o.Waits, Parks: o.Parks, Wakes: o.Wakes}
		for x.Rounds*workers < o.Steps {
			x.Rounds++
		}
		rows = append(rows, x)
	}
	return rows, r
}

// inTurn is so many picks of the workers in turn.
func inTurn(workers, n int) []int {
	picks := make([]int, n)
	for k := range picks {
		picks[k] = k % workers
	}
	return picks
}
