package explore

import (
	"slices"
	"testing"

	"plunder/api"
)

// The iterator can be stopped anywhere, and begins anew behind that.
func TestScriptsAreStopped(t *testing.T) {
	store := []api.Act{{Kind: api.AcStore, A: 1}}
	s := api.Scene{Size: 1, Begin: []int64{0}, Lists: [][]api.Act{store, store, store}}
	want, _ := Explore(s)
	seq := leastScripts(s)
	for stop := range len(want) + 1 {
		var got [][]int
		for picks := range seq {
			if len(got) == stop {
				break
			}
			got = append(got, slices.Clone(picks))
		}
		if !slices.EqualFunc(got, want[:stop], slices.Equal) {
			t.Errorf("stopped behind %d: %v", stop, got)
		}
	}
	if len(want) != 6 {
		t.Errorf("Explore = %v", want)
	}
}
