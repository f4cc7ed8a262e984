package plunder

import (
	"plunder/api"
	"plunder/machine"
	"plunder/script"
	"plunder/serial"
)

// measured is the serial run of a program, or why there can be no rows.
func measured(p api.Program, args []int64, most int, lim api.Limits, draws []int) (api.Value, api.Errno) {
	// A run without picks plays nothing, and refuses what all the rows' runs would refuse, in the order that is asked for.
	if o := machine.Run(p, args, most, lim, api.Script{Draws: draws}); o.Err != api.OK {
		return api.Value{}, o.Err
	}
	v, err := serial.Eval(p, args, api.ReportFuel)
	switch {
	case err != api.OK:
		return api.Value{}, err
	case v.Tasks > lim.Frames || v.Tasks > lim.Most:
		return api.Value{}, api.ErrLimit
	case machine.Bound(v.Work, v.Tasks, most, most) > api.MaxPicks:
		return api.Value{}, api.ErrLong
	}
	return v, api.OK
}

// row is the run by so many workers that make steps in turn, by as many rounds as surely suffice.
func row(p api.Program, args []int64, workers int, lim api.Limits, draws []int, v api.Value) api.Row {
	// The picks are whole rounds, as the window of the bound is a round.
	rounds := machine.Bound(v.Work, v.Tasks, workers, workers) / workers
	picks, _ := script.Turns(workers, rounds)
	o := machine.Run(p, args, workers, lim, api.Script{Picks: picks, Draws: draws})
	return api.Row{
		Workers: workers, Rounds: (o.Steps + workers - 1) / workers, Steps: o.Steps,
		Steals: o.Steals, Waits: o.Waits, Parks: o.Parks, Wakes: o.Wakes,
	}
}
