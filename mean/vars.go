package mean

import "maps"

// mark stands where it only matters that a name is there.
type mark struct{}

// distinct tells the different ones of names.
func distinct(names []string) map[string]mark {
	set := map[string]mark{}
	for _, name := range names {
		set[name] = mark{}
	}
	return set
}

// vars are a function's variables by their names: those that have a value, and those that are pending. All others are unset. A run keeps what they hold there, a check only marks.
type vars[V any] struct{ values, pending map[string]V }

func newVars[V any]() vars[V] {
	return vars[V]{values: map[string]V{}, pending: map[string]V{}}
}

func (v vars[V]) copied() vars[V] {
	return vars[V]{values: maps.Clone(v.values), pending: maps.Clone(v.pending)}
}

func (v vars[V]) put(name string, value V) { v.values[name] = value }

// spawn lets a variable have its value only behind the next sync.
func (v vars[V]) spawn(name string, value V) {
	delete(v.values, name)
	v.pending[name] = value
}

func (v vars[V]) sync() {
	for name, value := range v.pending {
		v.values[name] = value
	}
	clear(v.pending)
}
