package races

import (
	"slices"

	"plunder/api"
)

// sweep goes once through deeds, in their order.
type sweep struct {
	deeds  []api.Deed
	tasks  sets
	active []int           // tasks that have not returned, each ahead of its child
	doers  []int           // by deed, whose it is
	places map[int64]place // those that have been touched
}

// place is what is known of a place: one task that wrote it and one that read it, each standing for all that did so. It begins as if that were the root: what the root did is ahead of all that comes later, so it is as good as nobody.
type place struct {
	writer, reader int
	racy           bool
}

func newSweep(deeds []api.Deed) *sweep {
	s := &sweep{deeds: deeds, places: map[int64]place{}}
	s.active = append(s.active, s.tasks.begin())
	return s
}

// racyPlaces tells the places that have races, rising.
func racyPlaces(deeds []api.Deed) []int64 {
	s := newSweep(deeds)
	for at := range s.seconds {
		s.setRacy(deeds[at].Loc)
	}
	var racy []int64
	for loc, p := range s.places {
		if p.racy {
			racy = append(racy, loc)
		}
	}
	slices.Sort(racy)
	return racy
}

// firstRace tells the race of the first deed that has one with an earlier deed, and with the first of those.
func firstRace(deeds []api.Deed) (api.Race, bool) {
	s := newSweep(deeds)
	for at := range s.seconds {
		for with := range at {
			if s.racesWith(with, at) {
				return api.Race{At: at, With: with, Loc: deeds[at].Loc}, true
			}
		}
	}
	return api.Race{}, false
}

// seconds goes through the deeds and tells those that have races with earlier ones.
func (s *sweep) seconds(yield func(at int) bool) {
	next := 0
turns:
	for next < len(s.deeds) {
		task := s.active[len(s.active)-1]
		for next < len(s.deeds) {
			at := next
			next++
			s.doers = append(s.doers, task)
			switch d := s.deeds[at]; d.Kind {
			case api.DSpawn:
				s.active = append(s.active, s.tasks.begin())
				continue turns
			case api.DReturn:
				s.returned(task)
				continue turns
			case api.DSync:
				s.tasks.wait(task)
			default:
				if s.touch(task, d) && !yield(at) {
					return
				}
			}
		}
	}
}

// setRacy notes that a place that has been touched has a race.
func (s *sweep) setRacy(loc int64) {
	p := s.places[loc]
	p.racy = true
	s.places[loc] = p
}

// returned ends the current task.
func (s *sweep) returned(task int) {
	s.active = s.active[:len(s.active)-1]
	s.tasks.end(task, s.active[len(s.active)-1])
}

// touch notes a read or a write of the current task, and tells whether it has a race with an earlier deed.
func (s *sweep) touch(task int, d api.Deed) bool {
	p := s.places[d.Loc]
	race := s.tasks.parallel(p.writer)
	if d.Kind == api.DWrite {
		race = race || s.tasks.parallel(p.reader)
		p.writer = s.forBoth(p.writer, task)
	} else {
		p.reader = s.forBoth(p.reader, task)
	}
	s.places[d.Loc] = p
	return race
}

// forBoth tells which stands for both of two tasks that did the same at a place, the current one last. If the two deeds are parallel, what comes later and is parallel to the second one is so to the first one too; else what is parallel to the first one, which is ahead of the second one, is so to the second one too.
func (s *sweep) forBoth(earlier, current int) int {
	if s.tasks.parallel(earlier) {
		return earlier
	}
	return current
}

// racesWith tells whether the deed that was gone through last has a race with an earlier one.
func (s *sweep) racesWith(with, at int) bool {
	a, b := s.deeds[with], s.deeds[at]
	return touches(a) && a.Loc == b.Loc && (a.Kind == api.DWrite || b.Kind == api.DWrite) && s.tasks.parallel(s.doers[with])
}

// touches tells whether a deed is about a place.
func touches(d api.Deed) bool { return d.Kind == api.DRead || d.Kind == api.DWrite }
