package sorted

// entry is a thing that was put in, and its turn: how many were put in ahead of it.
type entry[T any] struct {
	x    T
	turn int
}

// steady is an order of entries: of those that stand alike the one that was put in first stands ahead.
func steady[T any](less func(a, b T) bool) func(a, b entry[T]) bool {
	return func(a, b entry[T]) bool {
		return less(a.x, b.x) || a.turn < b.turn && !less(b.x, a.x)
	}
}

// Heap is things of which the first one is at hand.
type Heap[T any] struct {
	ahead func(a, b entry[T]) bool // nil without an order
	list  []entry[T]
	turn  int // of the next one
}

// NewHeap is an empty one, by an order.
func NewHeap[T any](less func(a, b T) bool) *Heap[T] {
	if less == nil {
		return &Heap[T]{}
	}
	return &Heap[T]{ahead: steady(less)}
}

// Len is how many there are.
func (h *Heap[T]) Len() int {
	if h == nil {
		return 0
	}
	return len(h.list)
}

// Push puts one in; nothing, where there is no order.
func (h *Heap[T]) Push(x T) {
	if h == nil || h.ahead == nil {
		return
	}
	h.list = append(h.list, entry[T]{x, h.turn})
	h.turn++
	rise(h.list, h.ahead)
}

// Pop takes the first one out; false: there is none.
func (h *Heap[T]) Pop() (T, bool) {
	if h.Len() == 0 {
		var none T
		return none, false
	}
	var first entry[T]
	first, h.list = draw(h.list, h.ahead)
	return first.x, true
}

// In a list that is a heap none stands ahead of the one above it: above that at i stands that at (i-1)/2.

// rise makes a list a heap whose last one was put behind a heap.
func rise[T any](l []T, ahead func(a, b T) bool) {
	for at := len(l) - 1; at > 0; {
		above := (at - 1) / 2
		if !ahead(l[at], l[above]) {
			return
		}
		l[at], l[above] = l[above], l[at]
		at = above
	}
}

// sink makes a list a heap whose first one was put in the place of a heap's first one.
func sink[T any](l []T, ahead func(a, b T) bool) {
	at := 0
	for 2*at+1 < len(l) {
		next := 2*at + 1
		if next+1 < len(l) && ahead(l[next+1], l[next]) {
			next++
		}
		if !ahead(l[next], l[at]) {
			return
		}
		l[at], l[next] = l[next], l[at]
		at = next
	}
}

// draw is the first one of a heap that is not empty, and the heap without it.
func draw[T any](l []T, ahead func(a, b T) bool) (T, []T) {
	first, last := l[0], len(l)-1
	l[0] = l[last]
	// What is out is not to be held in memory by the room behind the end.
	clear(l[last:])
	sink(l[:last], ahead)
	return first, l[:last]
}
