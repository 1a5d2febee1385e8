package space

import (
	"cmp"
	"slices"
)

// heap has the least of its things at hand: none is greater than the two below it, which stand at twice its place, 1 and 2 further on.
type heap[T cmp.Ordered] struct {
	things []T
}

// push adds a thing.
func (h *heap[T]) push(x T) {
	h.things = append(h.things, x)
	at := len(h.things) - 1
	for at > 0 {
		above := (at - 1) / 2
		if h.things[above] <= h.things[at] {
			return
		}
		h.swap(above, at)
		at = above
	}
}

// pop takes the least thing away, if there is one.
func (h *heap[T]) pop() (T, bool) {
	if len(h.things) == 0 {
		var none T
		return none, false
	}
	last := len(h.things) - 1
	h.swap(0, last)
	least := h.things[last]
	h.things = h.things[:last]
	h.sink()
	return least, true
}

// sink moves the first thing to where it may stand.
func (h *heap[T]) sink() {
	at := 0
	for {
		below := 2*at + 1
		if below >= len(h.things) {
			return
		}
		if beside := below + 1; beside < len(h.things) && h.things[beside] < h.things[below] {
			below = beside
		}
		if h.things[at] <= h.things[below] {
			return
		}
		h.swap(at, below)
		at = below
	}
}

func (h *heap[T]) swap(i, j int) {
	h.things[i], h.things[j] = h.things[j], h.things[i]
}

// clone is another one alike.
func (h *heap[T]) clone() heap[T] {
	return heap[T]{things: slices.Clone(h.things)}
}
