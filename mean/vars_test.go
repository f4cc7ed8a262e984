package mean

import (
	"maps"
	"testing"
)

// Ways: a variable has a value or is pending, never both: a spawn takes it from the one map to the other, a sync takes all of them back.
func TestVars(t *testing.T) {
	v := newVars[int64]()
	holds := func(what string, values, pending map[string]int64) {
		t.Helper()
		if !maps.Equal(v.values, values) || !maps.Equal(v.pending, pending) {
			t.Errorf("%s: %v, want %v and %v", what, v, values, pending)
		}
	}
	v.put("a", 1)
	v.put("b", 2)
	v.put("a", 3)
	holds("set", map[string]int64{"a": 3, "b": 2}, nil)
	v.spawn("a", 4)
	v.spawn("c", 5)
	holds("spawned", map[string]int64{"b": 2}, map[string]int64{"a": 4, "c": 5})
	c := v.copied()
	v.sync()
	holds("synced", map[string]int64{"a": 4, "b": 2, "c": 5}, nil)
	v.sync()
	holds("synced again", map[string]int64{"a": 4, "b": 2, "c": 5}, nil)
	v = c
	holds("a copy", map[string]int64{"b": 2}, map[string]int64{"a": 4, "c": 5})
}
