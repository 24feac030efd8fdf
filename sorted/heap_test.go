package sorted_test

import (
	"math"
	"math/rand"
	"slices"
	"testing"

	"scholia/sorted"
)

// card is a thing of which several stand alike: those of one rank.
type card struct{ rank, name int }

func lower(a, b card) bool { return a.rank < b.rank }

func less(a, b int) bool { return a < b }

// cards is so many cards of few ranks, named as they stand.
func cards(rnd *rand.Rand, n int) []card {
	l := make([]card, n)
	for i := range l {
		l[i] = card{rnd.Intn(n/3 + 1), i}
	}
	return l
}

// inOrder is cards in order, those that stand alike as they stood.
func inOrder(l []card) []card {
	l = slices.Clone(l)
	slices.SortStableFunc(l, func(a, b card) int { return a.rank - b.rank })
	return l
}

// P6.2: of those that stand alike the first one that was put in.
func TestHeap(t *testing.T) {
	rnd := rand.New(rand.NewSource(9))
	for n := range 200 {
		h := sorted.NewHeap(lower)
		l := cards(rnd, n)
		for i, x := range l {
			h.Push(x)
			if h.Len() != i+1 {
				t.Fatal(h.Len(), i+1)
			}
		}
		for i, want := range inOrder(l) {
			if x, ok := h.Pop(); x != want || !ok || h.Len() != n-i-1 {
				t.Fatalf("%v %v came, not %v; %d are left", x, ok, want, h.Len())
			}
		}
		for range 2 {
			if x, ok := h.Pop(); x != (card{}) || ok || h.Len() != 0 {
				t.Fatalf("of an empty one came %v %v", x, ok)
			}
		}
		h.Push(card{7, 7})
		if x, ok := h.Pop(); x != (card{7, 7}) || !ok {
			t.Fatal("an emptied heap is of no use")
		}
	}
}

// P6.2: put in and taken out by turns.
func TestHeapByTurns(t *testing.T) {
	rnd := rand.New(rand.NewSource(10))
	for range 100 {
		h := sorted.NewHeap(lower)
		var in []card
		for i := range rnd.Intn(200) {
			if rnd.Intn(2) == 0 {
				x := card{rnd.Intn(20), i}
				h.Push(x)
				in = append(in, x)
				continue
			}
			x, ok := h.Pop()
			if ok != (len(in) > 0) {
				t.Fatalf("%v of %d", ok, len(in))
			}
			if ok {
				in = inOrder(in)
				if x != in[0] {
					t.Fatalf("%v came, not %v", x, in[0])
				}
				in = in[1:]
			}
		}
		if h.Len() != len(in) {
			t.Fatal(h.Len(), len(in))
		}
	}
}

// P6.2
func TestHeapNumbers(t *testing.T) {
	h := sorted.NewHeap(func(a, b int) bool { return a > b })
	for _, x := range []int{0, math.MinInt, math.MaxInt, -1, 1, 0} {
		h.Push(x)
	}
	for _, want := range []int{math.MaxInt, 1, 0, 0, -1, math.MinInt} {
		if x, ok := h.Pop(); x != want || !ok {
			t.Errorf("%d %v, not %d", x, ok, want)
		}
	}
}

// P6.2: heaps that no call made, or without an order.
func TestNoHeap(t *testing.T) {
	for _, h := range []*sorted.Heap[int]{nil, {}, new(sorted.Heap[int]), sorted.NewHeap[int](nil)} {
		for range 3 {
			h.Push(5)
			if x, ok := h.Pop(); x != 0 || ok || h.Len() != 0 {
				t.Errorf("%d %v %d", x, ok, h.Len())
			}
		}
	}
}

// odd: orders that are none.
var odd = []func(a, b int) bool{
	func(a, b int) bool { return true },
	func(a, b int) bool { return false },
	func(a, b int) bool { return (a-b)%3 == 1 },
	func(a, b int) bool { return a <= b },
	func(a, b int) bool { return a != b },
}

// P6.2, P6.3: whatever an order says, all ends, and nothing is lost or doubled.
func TestOddOrders(t *testing.T) {
	for k, order := range odd {
		h, b := sorted.NewHeap(order), sorted.NewBest(50, order)
		var l []int
		for i := range 100 {
			h.Push(i * 37 % 100)
			b.Offer(i * 37 % 100)
			l = append(l, i)
		}
		var out []int
		for x, ok := h.Pop(); ok; x, ok = h.Pop() {
			out = append(out, x)
		}
		slices.Sort(out)
		if !slices.Equal(out, l) {
			t.Errorf("order %d: of a heap came %v", k, out)
		}
		if out = b.Take(); len(out) != 50 {
			t.Errorf("order %d: of the best came %v", k, out)
		}
		slices.Sort(out)
		if len(slices.Compact(out)) != 50 {
			t.Errorf("order %d: of the best came %v", k, out)
		}
		out = sorted.Merge(order, l[50:], l[:20], nil, l[20:50])
		slices.Sort(out)
		if !slices.Equal(out, l) {
			t.Errorf("order %d: merged %v", k, out)
		}
	}
}

// P6.2
func TestBest(t *testing.T) {
	rnd := rand.New(rand.NewSource(11))
	for n := range 120 {
		for _, k := range []int{0, 1, 2, 3, 20, n - 1, n, n + 1, math.MaxInt} {
			b := sorted.NewBest(k, lower)
			for range 3 {
				l := cards(rnd, n)
				for _, x := range l {
					b.Offer(x)
				}
				want := inOrder(l)[:max(min(k, n), 0)]
				if got := b.Take(); !slices.Equal(got, want) {
					t.Fatalf("the %d first of %v: %v, not %v", k, l, got, want)
				}
				if got := b.Take(); len(got) != 0 {
					t.Fatalf("taken twice: %v", got)
				}
			}
		}
	}
}

// P6.2
func TestBestNone(t *testing.T) {
	for _, k := range []int{0, -1, math.MinInt, math.MinInt + 1} {
		b := sorted.NewBest(k, less)
		for i := range 5 {
			b.Offer(i)
		}
		if l := b.Take(); len(l) != 0 {
			t.Errorf("the %d first: %v", k, l)
		}
	}
	for _, b := range []*sorted.Best[int]{nil, {}, new(sorted.Best[int]), sorted.NewBest[int](5, nil)} {
		for range 3 {
			b.Offer(5)
			if l := b.Take(); len(l) != 0 {
				t.Errorf("of none came %v", l)
			}
		}
	}
}

// P6.2: what is handed out is not theirs, and two know nothing of one another.
func TestBestMemory(t *testing.T) {
	b, other := sorted.NewBest(3, less), sorted.NewBest(3, less)
	offer := func(l ...int) {
		for _, x := range l {
			b.Offer(x)
		}
	}
	offer(5, 4, 3, 2)
	first := b.Take()
	offer(9, 8, 7, 6)
	if !slices.Equal(first, []int{2, 3, 4}) {
		t.Error("an answer was changed by a later call", first)
	}
	first = first[:cap(first)]
	for i := range first {
		first[i] = 0
	}
	if l := b.Take(); !slices.Equal(l, []int{6, 7, 8}) {
		t.Error(l)
	}
	if l := other.Take(); len(l) != 0 {
		t.Error("two know of one another", l)
	}
}
