package laws_test

import (
	"math/rand"
	"slices"
	"strings"
	"testing"

	"plunder/api"
	"plunder/laws"
	"plunder/samples"
	"plunder/script"
	"plunder/worker"
)

// faults notes what it is told of.
type faults []string

func (f *faults) Errorf(format string, args ...any) {
	for _, x := range args {
		if name, ok := x.(string); ok {
			format = name
		}
	}
	*f = append(*f, format)
}

func check(j api.Job, events []api.Event) faults {
	var f faults
	laws.Check(&f, j, events)
	return f
}

func events(t *testing.T, j api.Job) []api.Event {
	t.Helper()
	all, _, err := worker.Play(j.P, j.Args, j.Workers, j.Lim, j.S)
	if err != api.OK {
		t.Fatal(err)
	}
	return all
}

// done is a run that comes to its end, with events of all kinds but EvPass and EvFull.
func done() api.Job {
	s, _ := script.Noise(5, 3, 9, 6000)
	return api.Job{P: samples.Fib(), Args: []int64{5}, Workers: 3, Lim: api.Limits{Frames: 64, First: 1, Most: 64}, S: s}
}

func TestGoodRuns(t *testing.T) {
	r := rand.New(rand.NewSource(1))
	for range 500 {
		j := samples.Job(r.Intn, 1000)
		if f := check(j, events(t, j)); f != nil {
			t.Fatalf("%+v: %v", j, f)
		}
	}
	kinds := map[int]int{}
	for _, e := range events(t, done()) {
		kinds[e.Kind]++
	}
	for kind := api.EvStart; kind < api.EvFull; kind++ {
		if kinds[kind] == 0 && kind != api.EvPass {
			t.Errorf("the run that is spoilt has no event of the kind %d", kind)
		}
	}
}

// of tells the number of the n-th event of a kind, from 0 on.
func of(events []api.Event, kind, n int) int {
	for k, e := range events {
		if e.Kind != kind {
			continue
		}
		if n == 0 {
			return k
		}
		n--
	}
	return -1
}

// moved lays the event at one place ahead of that at another one, each place with its own pick.
func moved(events []api.Event, from, to int) []api.Event {
	e := events[from]
	out := slices.Insert(slices.Delete(slices.Clone(events), from, from+1), to, e)
	for k := range out {
		out[k].At = events[k].At
	}
	return out
}

// doubled has the event at a place once more, behind itself, at the end of all.
func doubled(events []api.Event, at int) []api.Event {
	e := events[at]
	e.At = events[len(events)-1].At + 1
	return append(slices.Clone(events), e)
}

func without(events []api.Event, at int) []api.Event {
	return slices.Delete(slices.Clone(events), at, at+1)
}

func changed(events []api.Event, at int, change func(e *api.Event)) []api.Event {
	out := slices.Clone(events)
	change(&out[at])
	return out
}

// Each of these breaks a law, and is told as a fault of that law.
func TestSpoiltRuns(t *testing.T) {
	j := done()
	good := events(t, j)
	ahead := good[:of(good, api.EvHalt, 0)] // no worker has halted
	// the k-th child that is finished, and where
	finish := func(k int) int { return of(good, api.EvFinish, k) }
	resume, spawn := of(good, api.EvResume, 0), of(good, api.EvSpawn, 0)
	steal := func(at int) api.Event {
		return api.Event{At: at, Who: 1, Kind: api.EvSteal, Frame: good[spawn].Frame}
	}
	startOf := func(frame int) int {
		return slices.IndexFunc(good, func(e api.Event) bool { return e.Kind == api.EvStart && e.Frame == frame })
	}
	for name, c := range map[string]struct {
		law    string
		events []api.Event
	}{
		"a kind that is none":             {"12.4", changed(good, 0, func(e *api.Event) { e.Kind = api.EvNone })},
		"a kind beyond the last":          {"12.4", changed(good, 0, func(e *api.Event) { e.Kind = api.EvFull + 1 })},
		"a worker beyond the last":        {"12.4", changed(good, 3, func(e *api.Event) { e.Who = 3 })},
		"two events at a pick":            {"12.4", changed(good, 3, func(e *api.Event) { e.At = good[2].At })},
		"an event behind the picks":       {"12.4", changed(good, len(good)-1, func(e *api.Event) { e.At = len(j.S.Picks) })},
		"a second halt":                   {"12.7", doubled(good, of(good, api.EvHalt, 0))},
		"an event behind EvFull":          {"12.7", changed(good, 2, func(e *api.Event) { *e = api.Event{At: e.At, Kind: api.EvFull, Frame: -1} })},
		"a halt too early":                {"P7b", moved(good, of(good, api.EvHalt, 0), finish(3))},
		"no spawn":                        {"P2", without(good, of(good, api.EvSpawn, 2))},
		"a spawn twice":                   {"P2", doubled(ahead, of(good, api.EvSpawn, 2))},
		"a spawn by a stranger":           {"P2", changed(good, of(good, api.EvSpawn, 2), func(e *api.Event) { e.X = 60 })},
		"a pedigree":                      {"P2", changed(good, of(good, api.EvSpawn, 2), func(e *api.Event) { e.V++ })},
		"a frame beyond the limit":        {"P5", changed(good, of(good, api.EvSpawn, 2), func(e *api.Event) { e.Frame = 64 })},
		"a start twice":                   {"P2", doubled(ahead, of(good, api.EvStart, 2))},
		"a start ahead of the spawn":      {"P2", moved(good, of(good, api.EvStart, 2), 1)},
		"another mark":                    {"P2", changed(good, of(good, api.EvStart, 2), func(e *api.Event) { e.V = 2 })},
		"no start":                        {"P2", without(good, startOf(good[finish(0)].Frame))},
		"an end twice":                    {"P2", doubled(ahead, finish(1))},
		"an end for another":              {"11.4", changed(good, finish(1), func(e *api.Event) { e.X = 50 })},
		"another value":                   {"P2", changed(good, finish(1), func(e *api.Event) { e.V++ })},
		"another value of the root":       {"P2", changed(good, finish(14), func(e *api.Event) { e.V++ })},
		"a resume that is not told":       {"P3", without(good, of(good, api.EvResume, 0))},
		"a wait that is not told":         {"P3", without(good, of(good, api.EvWait, 0))},
		"a resume ahead of a child":       {"P3", moved(good, resume, slices.IndexFunc(good, func(e api.Event) bool { return e.Kind == api.EvFinish && e.Frame == good[resume].X }))},
		"a pass instead of a wait":        {"P3", changed(good, of(good, api.EvWait, 0), func(e *api.Event) { e.Kind = api.EvPass })},
		"more wakes than spawns":          {"P7b", changed(good, 1, func(e *api.Event) { *e = api.Event{At: e.At, Kind: api.EvWake} })},
		"a steal of none":                 {"P7b", append(slices.Clone(good[:spawn+1]), steal(good[spawn+1].At), steal(good[spawn+2].At))},
		"a task that is not there":        {"P2: the tree", append(slices.Clone(good[:startOf(good[finish(0)].Frame)+1]), api.Event{At: good[finish(0)].At, Kind: api.EvSpawn, Frame: 63, X: good[finish(0)].Frame, V: pedOf(good, good[finish(0)].Frame)*1000003 + 1})},
		"an end that is missing":          {"P3", without(good, of(good, api.EvFinish, 13))},
		"the root's end that is not told": {"P", without(good, finish(14))},
	} {
		f := check(j, c.events)
		if len(f) == 0 || !strings.HasPrefix(f[0], c.law) {
			t.Errorf("%s: the faults are %v, want one of %s", name, f, c.law)
		}
	}
}

func pedOf(events []api.Event, frame int) int64 {
	for _, e := range events {
		if e.Kind == api.EvSpawn && e.Frame == frame {
			return e.V
		}
	}
	return 1
}

// With one worker: no event of several, and one task at a time has no child that is busy.
func TestSpoiltAlone(t *testing.T) {
	j := api.Job{P: samples.Pair(), Workers: 1, Lim: api.Limits{Frames: 3, First: 1, Most: 3}, S: api.Script{Picks: make([]int, 200)}}
	good := events(t, j)
	if f := check(j, good); f != nil {
		t.Fatalf("%v", f)
	}
	park := api.Event{At: good[2].At, Kind: api.EvPark}
	if f := check(j, append(slices.Clone(good[:2]), park)); len(f) == 0 || !strings.HasPrefix(f[0], "11.10") {
		t.Errorf("a worker alone parks: %v", f)
	}
	root := []api.Event{good[0], good[len(good)-2], good[len(good)-1]}
	if f := check(j, root); len(f) != 1 || !strings.HasPrefix(f[0], "P2: the run is done") {
		t.Errorf("a run without its children: %v", f)
	}
	both := moved(good, of(good, api.EvStart, 2), of(good, api.EvStart, 1))
	if f := check(j, both); len(f) == 0 || !strings.HasPrefix(f[0], "P7a") {
		t.Errorf("two children at a time: %v", f)
	}
}
