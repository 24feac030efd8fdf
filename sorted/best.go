package sorted

// Best is the k first ones, by an order, of all that were offered.
type Best[T any] struct {
	k      int
	behind func(a, b entry[T]) bool // nil without an order
	list   []entry[T]               // a heap by behind: the last one is at hand, as it is left out first
	turn   int                      // of the next one
}

// NewBest is an empty one.
func NewBest[T any](k int, less func(a, b T) bool) *Best[T] {
	if less == nil {
		return &Best[T]{}
	}
	ahead := steady(less)
	return &Best[T]{k: k, behind: func(a, b entry[T]) bool { return ahead(b, a) }}
}

// Offer offers one; to nothing, where there is no order.
func (b *Best[T]) Offer(x T) {
	if b == nil || b.behind == nil || b.k <= 0 {
		return
	}
	e := entry[T]{x, b.turn}
	b.turn++
	if len(b.list) < b.k {
		b.list = append(b.list, e)
		rise(b.list, b.behind)
	} else if b.behind(b.list[0], e) {
		b.list[0] = e
		sink(b.list, b.behind)
	}
}

// Take takes all out, in order.
func (b *Best[T]) Take() []T {
	if b == nil {
		return nil
	}
	l := b.list
	b.list, b.turn = nil, 0
	out := make([]T, len(l))
	for at := len(l) - 1; at >= 0; at-- {
		var last entry[T]
		last, l = draw(l, b.behind)
		out[at] = last.x
	}
	return out
}
