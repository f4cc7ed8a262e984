package plunder_test

import (
	"fmt"
	"math/rand"
	"strings"
	"testing"

	"plunder/api"
	"plunder/sources"
	"plunder/text"
)

// printed draws the text of a source: a right one, one that was spoilt, or one whose text was spoilt.
func printed(r *rand.Rand) (string, api.Source) {
	for {
		s := sources.Draw(r.Intn)
		kind := r.Intn(6)
		if kind == 0 {
			s = sources.Spoil(r.Intn, s)
		}
		src, err := text.Print(s)
		if err != api.OK || len(s.Fns) == 0 {
			continue
		}
		if kind == 1 {
			src = spoilt(r, src)
		}
		return src, s
	}
}

// spoilt puts something into a text, or takes something out of it.
func spoilt(r *rand.Rand, src string) string {
	if len(src) == 0 {
		return "}"
	}
	at := r.Intn(len(src))
	words := []string{"}", "{", ";", "fn ", "#", "99999999999999999999", " (", ")", "x", "\xff", "return ", strings.Repeat("n", 30), strings.Repeat("-", 50), "*", "sync;"}
	if r.Intn(2) == 0 {
		return src[:at] + src[min(len(src), at+1+r.Intn(4)):]
	}
	return src[:at] + words[r.Intn(len(words))] + src[at:]
}

// orders draws the text of a script.
func orders(r *rand.Rand, workers int) string {
	list := func(items int) string {
		var b strings.Builder
		for range items {
			switch r.Intn(4) {
			case 0:
				fmt.Fprintf(&b, " %d", r.Intn(20)-5)
			case 1:
				fmt.Fprintf(&b, " %d*%d", r.Intn(max(1, workers)), 1+r.Intn(60))
			default:
				fmt.Fprintf(&b, " (%d %d*2 -%d)*%d", r.Intn(9), r.Intn(9), 1+r.Intn(9), 1+r.Intn(200))
			}
		}
		return b.String()
	}
	script := "picks" + list(r.Intn(8)) + " draws" + list(r.Intn(3))
	if r.Intn(12) == 0 {
		return spoilt(r, script)
	}
	return script
}

// limits draws limits, most of which may be.
func limits(r *rand.Rand) api.Limits {
	switch r.Intn(8) {
	case 0:
		return api.Limits{Frames: r.Intn(3), First: r.Intn(3), Most: r.Intn(4)}
	case 1, 2:
		return api.Limits{Frames: 1 + r.Intn(9), First: 1, Most: 1 + r.Intn(9)}
	}
	return api.Limits{Frames: 300, First: 1 + r.Intn(2), Most: 300}
}

// arguments draws arguments of a source's main, most of which are as many as they should be.
func arguments(r *rand.Rand, s api.Source) []int64 {
	args := sources.Args(r.Intn, s)
	switch r.Intn(16) {
	case 0:
		return append(args, 1)
	case 1:
		return args[:len(args)/2]
	}
	return args
}

func workers(r *rand.Rand, most int) int {
	if r.Intn(16) == 0 {
		return []int{0, -1, 65, 64, -1 << 63, 1<<63 - 1}[r.Intn(6)]
	}
	return 1 + r.Intn(most)
}

// 20.1, 20.2, 20.4: texts that are drawn.
func TestDrawnRuns(t *testing.T) {
	t.Parallel()
	r := rand.New(rand.NewSource(20))
	stages, kinds, serials := map[int]int{}, map[int]int{}, 0
	for range 2000 {
		src, s := printed(r)
		n := workers(r, 6)
		checkBuild(t, src)
		report := checkExec(t, src, arguments(r, s), n, limits(r), orders(r, n))
		stages[report.Stage]++
		if report.Stage == api.AtRun {
			kinds[report.Outcome.Kind]++
		}
		if report.Serial.Work > 0 {
			serials++
		}
		if t.Failed() {
			return
		}
	}
	for _, stage := range []int{api.AtScript, api.AtText, api.AtCheck, api.AtRun} {
		if stages[stage] < 100 {
			t.Errorf("only %d reports of stage %d: %v", stages[stage], stage, stages)
		}
	}
	for kind := range api.OutEnded + 1 {
		if kinds[kind] < 40 {
			t.Errorf("only %d outcomes of the kind %d: %v", kinds[kind], kind, kinds)
		}
	}
	if serials < 700 {
		t.Errorf("only %d serial runs were told", serials)
	}
}

// 20.5 to 20.7: texts that are drawn.
func TestDrawnScales(t *testing.T) {
	t.Parallel()
	r := rand.New(rand.NewSource(205))
	errs := map[api.Errno]int{}
	for range 1000 {
		src, s := printed(r)
		args, lim := arguments(r, s), limits(r)
		draws := make([]int, r.Intn(40))
		for k := range draws {
			draws[k] = int(r.Uint64())
		}
		rows, report := checkScale(t, src, args, workers(r, 5), lim, draws)
		if report.Stage == api.AtRun {
			errs[report.Err]++
		}
		if report.Err == api.OK {
			checkRows(t, src, args, lim, draws, rows, report.Serial)
		}
		if t.Failed() {
			return
		}
	}
	for _, err := range []api.Errno{api.OK, api.ErrArity, api.ErrWorkers, api.ErrLimits, api.ErrFuel, api.ErrLimit} {
		if errs[err] < 20 {
			t.Errorf("only %d reports with %d: %v", errs[err], err, errs)
		}
	}
}
