package box_test

import (
	"math"
	"math/rand"
	"slices"
	"testing"

	"scholia/box"
)

// holds tells whether a box has just those in, and so much room left.
func holds[T comparable](t *testing.T, what any, b *box.Box[T], room int, l ...T) {
	t.Helper()
	for range 2 { // to ask is to change nothing
		if b.Len() != len(l) || b.Room() != room || !slices.Equal(b.List(), l) {
			t.Fatalf("%v: %d in, room for %d, %v; not %d, %d, %v", what, b.Len(), b.Room(), b.List(), len(l), room, l)
		}
	}
}

// gives tells whether what came out is that, or nothing.
func gives[T comparable](t *testing.T, what any, x T, ok bool, want T, there bool) {
	t.Helper()
	if x != want || ok != there {
		t.Fatalf("%v: %v %v came, not %v %v", what, x, ok, want, there)
	}
}

// filled is a box with some in, the first of them somewhere in its middle.
func filled(t *testing.T, room, turn int, l ...int) *box.Box[int] {
	t.Helper()
	b := box.New[int](room)
	for i := range turn {
		if b.Put(i) {
			b.Take()
		}
	}
	for _, x := range l {
		if !b.Put(x) {
			t.Fatalf("%d does not go in", x)
		}
	}
	return b
}

// P7.1
func TestNew(t *testing.T) {
	for room, want := range map[int]int{0: 0, 1: 1, 2: 2, 40: 40, 4095: 4095, 4096: 4096, 4097: 4096, 1 << 31: 4096, 1 << 62: 4096, math.MaxInt: 4096, -1: 0, -4096: 0, math.MinInt: 0} {
		b := box.New[int](room)
		holds(t, room, b, want)
		for i := range want {
			if !b.Put(i) || b.Len() != i+1 || b.Room() != want-i-1 {
				t.Fatalf("%d: %d in, room for %d", room, b.Len(), b.Room())
			}
		}
		for range 2 {
			if b.Put(9) || b.Len() != want || b.Room() != 0 {
				t.Fatalf("%d: put beyond its room", room)
			}
		}
		for i := range want {
			x, ok := b.Take()
			gives(t, room, x, ok, i, true)
		}
		x, ok := b.Take()
		gives(t, room, x, ok, 0, false)
		holds(t, room, b, want)
	}
}

// P7.1
func TestPutTake(t *testing.T) {
	b := box.New[int](2)
	for i, want := range []bool{true, true, false} {
		if b.Put(i+1) != want {
			t.Errorf("Put of %d is not %v", i+1, want)
		}
	}
	holds(t, "full", b, 0, 1, 2)
	x, ok := b.Take()
	gives(t, "first", x, ok, 1, true)
	holds(t, "one", b, 1, 2)
	if !b.Put(4) || b.Put(5) {
		t.Error("room for one was room for none, or two")
	}
	holds(t, "again", b, 0, 2, 4)
}

// P7.1
func TestPull(t *testing.T) {
	for n := range 6 {
		for room := n; room < n+3; room++ {
			for turn := range 8 {
				l := []int{10, 11, 12, 13, 14, 15}[:n]
				for k := range n {
					b := filled(t, room, turn, l...)
					x, ok := b.Pull(k)
					gives(t, k, x, ok, l[k], true)
					holds(t, "behind Pull", b, room-n+1, slices.Delete(slices.Clone(l), k, k+1)...)
				}
				b := filled(t, room, turn, l...)
				for _, k := range []int{n, n + 1, room, -1, -2, math.MinInt, math.MinInt + 1, math.MaxInt, 1 << 32, 4096} {
					if k >= 0 && k < n {
						continue
					}
					x, ok := b.Pull(k)
					gives(t, k, x, ok, 0, false)
					holds(t, "behind no Pull", b, room-n, l...)
				}
			}
		}
	}
}

// P7.1, P7.2: whatever was put in and taken out.
func TestAgainstList(t *testing.T) {
	rnd := rand.New(rand.NewSource(13))
	for range 60 {
		room := rnd.Intn(9)
		b := box.New[int](room)
		var l []int
		for i := range 150 {
			switch rnd.Intn(5) {
			case 0, 1:
				ok := b.Put(i)
				if ok != (len(l) < room) {
					t.Fatalf("Put of %d, %d in", i, len(l))
				}
				if ok {
					l = append(l, i)
				}
			case 2, 3:
				k := rnd.Intn(room+3) - 1
				x, ok := b.Pull(k)
				if ok != (k >= 0 && k < len(l)) || ok && x != l[k] || !ok && x != 0 {
					t.Fatalf("Pull of %d: %d %v of %v", k, x, ok, l)
				}
				if ok {
					l = slices.Delete(l, k, k+1)
				}
			default:
				x, ok := b.Take()
				if ok != (len(l) > 0) || ok && x != l[0] || !ok && x != 0 {
					t.Fatalf("Take: %d %v of %v", x, ok, l)
				}
				if ok {
					l = l[1:]
				}
			}
			holds(t, "some", b, room-len(l), l...)
		}
	}
}

// P7.2
func TestPour(t *testing.T) {
	for _, c := range []struct {
		from  []int
		room  int
		to    []int
		moved int
	}{
		{nil, 0, nil, 0},
		{nil, 3, []int{9}, 0},
		{[]int{1, 2, 3}, 0, nil, 0},
		{[]int{1, 2, 3}, 1, nil, 1},
		{[]int{1, 2, 3}, 3, nil, 3},
		{[]int{1, 2, 3}, 9, nil, 3},
		{[]int{1, 2, 3}, 3, []int{9}, 2},
		{[]int{1, 2, 3}, 3, []int{7, 8, 9}, 0},
		{[]int{1}, 3, []int{8, 9}, 1},
	} {
		for turn := range 5 {
			from, to := filled(t, 3, turn, c.from...), filled(t, c.room, turn, c.to...)
			if n := box.Pour(from, to); n != c.moved {
				t.Fatalf("%v: %d went", c, n)
			}
			holds(t, "from", from, 3-len(c.from)+c.moved, c.from[c.moved:]...)
			holds(t, "to", to, c.room-len(c.to)-c.moved, append(slices.Clone(c.to), c.from[:c.moved]...)...)
		}
	}
}

// P7.2: a box, and itself.
func TestPourItself(t *testing.T) {
	for n := range 4 {
		l := []int{1, 2, 3}[:n]
		b := filled(t, 3, 2, l...)
		if k := box.Pour(b, b); k != 0 {
			t.Errorf("%d went", k)
		}
		holds(t, "itself", b, 3-n, l...)
		same := *b
		if k := box.Pour(b, &same); k != 0 {
			t.Errorf("%d went", k)
		}
		holds(t, "itself", b, 3-n, l...)
	}
}

// P7.2
func TestFirst(t *testing.T) {
	one, two, none := filled(t, 3, 1, 1, 2), filled(t, 2, 0, 8), filled(t, 5, 0)
	for _, c := range []struct {
		boxes []*box.Box[int]
		x, at int
	}{
		{nil, 0, -1},
		{[]*box.Box[int]{}, 0, -1},
		{[]*box.Box[int]{none}, 0, -1},
		{[]*box.Box[int]{nil, none, {}, nil}, 0, -1},
		{[]*box.Box[int]{nil, {}, none, two, one}, 8, 3},
		{[]*box.Box[int]{none, two, one, two}, 1, 2},
		{[]*box.Box[int]{one, two, one}, 2, 0},
		{[]*box.Box[int]{one, two, one}, 0, -1},
	} {
		before := one.Len() + two.Len()
		x, at := box.First(c.boxes...)
		if x != c.x || at != c.at {
			t.Errorf("%d of %d, not %d of %d", x, at, c.x, c.at)
		}
		if took := before - one.Len() - two.Len(); took != 1 && at >= 0 || took != 0 && at < 0 {
			t.Errorf("%d were taken", took)
		}
	}
	holds(t, "first", one, 3)
	holds(t, "second", two, 2)
}

// P7.1, P7.2: a box that no call made has no room.
func TestNoBox(t *testing.T) {
	for _, b := range []*box.Box[int]{nil, {}, new(box.Box[int])} {
		for range 2 {
			holds(t, "no box", b, 0)
			if b.Put(5) {
				t.Error("something was put into no box")
			}
			x, ok := b.Take()
			gives(t, "no box", x, ok, 0, false)
			for _, k := range []int{0, 1, -1, math.MinInt, math.MaxInt} {
				x, ok = b.Pull(k)
				gives(t, "no box", x, ok, 0, false)
			}
			some := filled(t, 3, 0, 1, 2)
			if box.Pour(some, b) != 0 || box.Pour(b, some) != 0 || box.Pour(b, b) != 0 || box.Pour(b, nil) != 0 || box.Pour(nil, b) != 0 {
				t.Error("something went into, or out of, no box")
			}
			holds(t, "the other", some, 1, 1, 2)
			if x, at := box.First(b, b); x != 0 || at != -1 {
				t.Error(x, at)
			}
		}
	}
}

// P7.1: what is handed out is not the box's, and two boxes know nothing of one another.
func TestMemory(t *testing.T) {
	b, other := filled(t, 5, 3, 1, 2, 3), filled(t, 5, 0)
	l, more := b.List(), b.List()
	l = l[:cap(l)]
	for i := range l {
		l[i] = 55
	}
	if !slices.Equal(more, []int{1, 2, 3}) {
		t.Error("two answers share memory", more)
	}
	holds(t, "behind List", b, 2, 1, 2, 3)
	b.Take()
	b.Put(4)
	if !slices.Equal(more, []int{1, 2, 3}) {
		t.Error("an answer was changed by a later call", more)
	}
	holds(t, "the other", other, 5)

	type pair struct{ a, b int }
	pairs := box.New[pair](2)
	x := pair{1, 2}
	pairs.Put(x)
	x.a = 9
	pairs.Put(x)
	holds(t, "pairs", pairs, 0, pair{1, 2}, pair{9, 2})
	boxes := []*box.Box[pair]{nil, pairs}
	box.First(boxes...)
	if boxes[0] != nil || boxes[1] != pairs {
		t.Error("First changed what it was handed")
	}
}

// P7.1, P7.2: things of every kind: none, pointers to nothing, very great ones.
func TestKinds(t *testing.T) {
	nils := box.New[*int](3)
	if !nils.Put(nil) || !nils.Put(new(int)) || !nils.Put(nil) || nils.Put(nil) || nils.Len() != 3 {
		t.Fatal(nils.Len())
	}
	if l := nils.List(); len(l) != 3 || l[0] != nil || l[1] == nil || l[2] != nil {
		t.Error(l)
	}
	if x, ok := nils.Pull(2); x != nil || !ok || nils.Len() != 2 {
		t.Error(x, ok)
	}
	if x, at := box.First(nils); x != nil || at != 0 || nils.Len() != 1 {
		t.Error(x, at)
	}
	empty := box.New[struct{}](4096)
	for range 4096 {
		empty.Put(struct{}{})
	}
	if empty.Len() != 4096 || empty.Put(struct{}{}) || len(empty.List()) != 4096 {
		t.Error(empty.Len())
	}
	type page [1 << 17]byte
	pages, to := box.New[page](4096), box.New[page](1)
	pages.Put(page{1})
	pages.Put(page{2})
	if n := box.Pour(pages, to); n != 1 || pages.Len() != 1 || to.Room() != 0 {
		t.Error(n, pages.Len())
	}
	if x, ok := to.Take(); x[0] != 1 || !ok {
		t.Error(x[0], ok)
	}
}
