package dag

// heap holds elements of which the first one, in an order of its own, is to be had at once: no element stands ahead of the one at half its place.
type heap[E any] struct {
	items []E
	ahead func(a, b E) bool // the order
}

func (h *heap[E]) empty() bool { return len(h.items) == 0 }

// push puts an element in.
func (h *heap[E]) push(e E) {
	h.items = append(h.items, e)
	at := len(h.items) - 1
	for at > 0 {
		up := (at - 1) / 2
		if !h.ahead(h.items[at], h.items[up]) {
			return
		}
		h.swap(at, up)
		at = up
	}
}

// pop takes the first element out of a heap that is not empty.
func (h *heap[E]) pop() E {
	first := h.items[0]
	last := len(h.items) - 1
	h.swap(0, last)
	h.items = h.items[:last]
	h.sink()
	return first
}

// sink brings the element at the top down to where it belongs.
func (h *heap[E]) sink() {
	at := 0
	for {
		least := h.least(at, h.least(2*at+1, 2*at+2))
		if least == at {
			return
		}
		h.swap(at, least)
		at = least
	}
}

// least tells which of two places holds the element that comes first; a place behind the end holds none.
func (h *heap[E]) least(a, b int) int {
	if b < len(h.items) && h.ahead(h.items[b], h.items[a]) {
		return b
	}
	return a
}

func (h *heap[E]) swap(a, b int) { h.items[a], h.items[b] = h.items[b], h.items[a] }
