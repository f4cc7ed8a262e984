package worker

import (
	"plunder/api"
	"plunder/cells"
	"plunder/script"
)

// Play runs a world over a new arena, by a script, to its end: each access by the worker that made it.
func Play(p api.Program, args []int64, workers int, lim api.Limits, s api.Script) ([]api.Event, []api.Access, api.Errno) {
	if len(s.Picks) > api.MaxPicks || len(s.Draws) > api.MaxPicks {
		return nil, nil, api.ErrLong
	}
	m, err := cells.New(Need(workers, lim))
	if err != api.OK {
		return nil, nil, err
	}
	w, err := New(m, p, args, workers, lim)
	if err != api.OK {
		return nil, nil, err
	}
	m.Watch(true)
	events := w.play(m, s)
	return events, m.Log(), api.OK
}

// play goes through the picks and tells the events. Where all workers have halted no step does anything: the picks that are left are as good as not played.
func (w *World) play(m *cells.Arena, s api.Script) []api.Event {
	var events []api.Event
	draws := script.List(s.Draws)
	for at, i := range script.Each(s, len(w.workers)) {
		m.Who(i)
		e, _ := w.Step(i, draws)
		if e == (api.Event{}) {
			continue
		}
		e.At = at
		events = append(events, e)
		if e.Kind == api.EvFull {
			break
		}
	}
	return events
}
