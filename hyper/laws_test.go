package hyper_test

import (
	"math/rand"
	"slices"
	"testing"

	"plunder/api"
	"plunder/hyper"
	"plunder/ops"
	"plunder/races"
	"plunder/samples"
)

// holds holds a play against the model, and against what follows (23.6 to 23.11, P17).
func holds(t *testing.T, deeds []api.Deed, stolen []bool, picks []int) api.Views {
	t.Helper()
	v, err := hyper.Play(deeds, stolen, picks)
	if want := modelled(deeds, stolen, picks); err != api.OK || !same(v, want) {
		t.Fatalf("23.3: Play(%s, %v, %v) = %+v, %d, want %+v", text(deeds), stolen, picks, v, err, want)
	}
	l, err := hyper.Serial(deeds)
	if err != api.OK || !slices.Equal(l, puts(deeds)) {
		t.Fatalf("23.5: Serial(%s) = %v, %d", text(deeds), l, err)
	}
	if !slices.Equal(v.Final, l) {
		t.Fatalf("23.6, P17: Play(%s, %v, %v): Final %v, Serial %v", text(deeds), stolen, picks, v.Final, l)
	}
	if fault := viewsFault(deeds, stolen, v); fault != "" {
		t.Fatalf("23.7: Play(%s, %v, %v) = %+v: %s", text(deeds), stolen, picks, v, fault)
	}
	if !looksRight(deeds, stolen, v.Looks) {
		t.Fatalf("23.8: Play(%s, %v, %v): Looks %v", text(deeds), stolen, picks, v.Looks)
	}
	for op := range api.NumOps {
		want, refused := ops.Fold(op, l)
		if n, err := hyper.Fold(op, deeds, stolen, picks); n != want || err != refused {
			t.Fatalf("23.9: Fold(%d, %s, %v, %v) = %d, %d, want %d, %d", op, text(deeds), stolen, picks, n, err, want, refused)
		}
	}
	return v
}

// viewsFault tells what 23.7 says otherwise of the views.
func viewsFault(deeds []api.Deed, stolen []bool, v api.Views) string {
	made := 1
	for k, is := range stolen {
		if is && returned(deeds, k) {
			made++
		}
	}
	if v.Made != made || len(v.Merges) != made-1 {
		return "how many views, or merges"
	}
	gone := make([]bool, made)
	at := 0
	for _, m := range v.Merges {
		if m.Left < 0 || m.Left >= m.Right || m.Right >= made || gone[m.Left] || gone[m.Right] {
			return "which views"
		}
		gone[m.Right] = true
		if m.At < at || m.At > len(deeds) || m.At < len(deeds) && deeds[m.At].Kind != api.DSync && deeds[m.At].Kind != api.DReturn {
			return "where"
		}
		at = m.At
	}
	return ""
}

// looksRight is 23.8, and the looks of 23.10.
func looksRight(deeds []api.Deed, stolen []bool, looks [][]int64) bool {
	all := whole(deeds, stolen)
	if len(looks) != len(all) {
		return false
	}
	k := 0
	for at, d := range deeds {
		if d.Kind != api.DRead {
			continue
		}
		ahead := puts(deeds[:at])
		from := len(ahead) - len(looks[k])
		if from < 0 || !slices.Equal(looks[k], ahead[from:]) || from > 0 && (all[k] || !slices.Contains(stolen, true)) {
			return false
		}
		k++
	}
	return true
}

// alike holds 23.11, and 23.10 where nothing is stolen.
func alike(t *testing.T, deeds []api.Deed, stolen []bool, rows ...[]int) {
	t.Helper()
	first := holds(t, deeds, stolen, nil)
	for _, picks := range rows {
		v := holds(t, deeds, stolen, picks)
		if !slices.Equal(v.Final, first.Final) || v.Made != first.Made || !sameLists(v.Looks, first.Looks) {
			t.Fatalf("23.11: Play(%s, %v, ..): %+v without picks, %+v by %v", text(deeds), stolen, first, v, picks)
		}
	}
	if !slices.Contains(stolen, true) && (first.Made != 1 || len(first.Merges) != 0) {
		t.Fatalf("23.10: Play(%s, ..) = %+v", text(deeds), first)
	}
}

// 23.1 to 23.11, P17: all lists of up to six deeds, with all that may be stolen.
func TestShortLists(t *testing.T) {
	most := 6
	if testing.Short() {
		most = 5
	}
	var grow func(deeds []api.Deed, depth, spawns int)
	grow = func(deeds []api.Deed, depth, spawns int) {
		for bits := range 1 << spawns {
			stolen := make([]bool, spawns)
			for k := range stolen {
				stolen[k] = bits>>k&1 == 1
			}
			alike(t, deeds, stolen, []int{1}, []int{-1, 1, 5})
			if cut := slices.Index(stolen, true); cut < 0 {
				alike(t, deeds, nil)
			} else {
				alike(t, deeds, stolen[:cut+1])
			}
		}
		if len(deeds) == most {
			return
		}
		for kind := range 5 {
			deed := api.Deed{Kind: kind, Loc: int64(2*len(deeds) + 3)}
			longer := append(slices.Clone(deeds), deed)
			switch {
			case kind == api.DSpawn:
				grow(longer, depth+1, spawns+1)
			case kind != api.DReturn:
				grow(longer, depth, spawns)
			case depth > 0:
				grow(longer, depth-1, spawns)
			}
		}
	}
	grow(nil, 0, 0)
}

// 23.1 to 23.11, P17: drawn lists, with fewer and with more picks than are taken.
func TestDrawn(t *testing.T) {
	r := rand.New(rand.NewSource(233))
	rows, joined := 0, 0
	for range 3000 {
		n := r.Intn(60)
		if r.Intn(20) == 0 {
			n = r.Intn(600)
		}
		deeds := drawDeeds(r, n, drawWays(r))
		stolen := drawStolen(r, r.Intn(n+2))
		alike(t, deeds, stolen, drawPicks(r, n), drawPicks(r, r.Intn(8)))
		v, _ := hyper.Play(deeds, stolen, nil)
		for i, m := range v.Merges {
			if i > 0 && m.At == v.Merges[i-1].At {
				rows++
			}
			if m.Left > 0 {
				joined++
			}
		}
	}
	if rows < 3000 || joined < 3000 {
		t.Errorf("too few merges of rows of three or more views %d, or into a view but the first %d", rows, joined)
	}
}

// 23.3, R1: the most deeds, flat and deep, with all stolen.
func TestGreatest(t *testing.T) {
	flat := slices.Repeat(list("S w3 R r"), api.MaxDeeds/4)
	deep := slices.Concat(slices.Repeat(list("S"), api.MaxDeeds/4), slices.Repeat(list("w5 R r"), api.MaxDeeds/4))
	open := slices.Repeat(list("S w7 R S"), api.MaxDeeds/4)
	looks := slices.Concat(slices.Repeat(list("w9"), api.MaxDeeds/2), slices.Repeat(list("r"), api.MaxDeeds/2))
	all := slices.Repeat([]bool{true}, api.MaxDeeds)
	r := rand.New(rand.NewSource(234))
	for _, deeds := range [][]api.Deed{flat, deep, open, looks, drawDeeds(r, api.MaxDeeds, drawWays(r))} {
		last := slices.Repeat([]int{-1}, api.MaxPicks) // joins from the right
		for _, picks := range [][]int{nil, last, drawPicks(r, api.MaxDeeds)} {
			v, err := hyper.Play(deeds, all, picks)
			if err != api.OK || !same(v, modelled(deeds, all, picks)) {
				t.Errorf("23.3: the most deeds: another play than the model's, %d", err)
			}
			want, _ := ops.Fold(api.Mul, puts(deeds))
			if n, err := hyper.Fold(api.Mul, deeds, all, picks); n != want || err != api.OK {
				t.Errorf("23.9: the most deeds: Fold = %d, %d, want %d", n, err, want)
			}
		}
	}
}

// P17: the deeds of programs' runs.
func TestRuns(t *testing.T) {
	r := rand.New(rand.NewSource(235))
	split := 0
	for range 1000 {
		p := samples.Draw(r.Intn, false)
		deeds, err := races.Of(p, samples.Args(r.Intn, p), 2000)
		if err != api.OK || len(deeds) > 400 {
			continue
		}
		stolen := drawStolen(r, len(deeds))
		alike(t, deeds, stolen, drawPicks(r, len(deeds)))
		if v, _ := hyper.Play(deeds, stolen, nil); v.Made > 2 {
			split++
		}
	}
	if split < 50 {
		t.Errorf("too few runs with more than one view beside the first: %d", split)
	}
}
