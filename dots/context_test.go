package dots_test

import (
	"math"
	"math/rand"
	"slices"
	"testing"

	"scholia/api"
	"scholia/dots"
)

// context is one of numbers from replica 0 on, and dots.
func context(upto []int, cloud ...api.Dot) api.Context {
	c := api.Context{Cloud: cloud}
	copy(c.Upto[:], upto)
	return c
}

// sameContext tells whether two contexts are the same, dot by dot.
func sameContext(a, b api.Context) bool {
	return a.Upto == b.Upto && slices.Equal(a.Cloud, b.Cloud)
}

// spoilt: dots that may not be.
var spoilt = []api.Dot{{Rep: -1, N: 1}, {Rep: 64, N: 1}, {Rep: 0, N: 0}, {Rep: 0, N: -1}, {Rep: 1, N: api.MaxCount + 1}, {Rep: math.MinInt, N: math.MaxInt}, {Rep: math.MaxInt, N: math.MinInt}, {Rep: 63, N: math.MaxInt}, {Rep: 63, N: math.MinInt}, {Rep: 1 << 32, N: 3}}

// P8.3
func TestTidy(t *testing.T) {
	const top = api.MaxCount
	for _, c := range []struct{ c, want api.Context }{
		{context(nil), context(nil)},
		{api.Context{Cloud: []api.Dot{}}, context(nil)},
		{context([]int{2}, api.Dot{Rep: 0, N: 4}, api.Dot{Rep: 0, N: 3}, api.Dot{Rep: 0, N: 6}), context([]int{4}, api.Dot{Rep: 0, N: 6})},
		{context(nil, api.Dot{Rep: 1, N: 2}, api.Dot{Rep: 0, N: 3}), context(nil, api.Dot{Rep: 0, N: 3}, api.Dot{Rep: 1, N: 2})},
		{context(nil, api.Dot{Rep: 1, N: 1}), context([]int{0, 1})},
		{context([]int{5}, api.Dot{Rep: 0, N: 5}, api.Dot{Rep: 0, N: 1}, api.Dot{Rep: 0, N: 7}, api.Dot{Rep: 0, N: 7}), context([]int{5}, api.Dot{Rep: 0, N: 7})},
		{context(nil, api.Dot{Rep: 0, N: 3}, api.Dot{Rep: 0, N: 2}, api.Dot{Rep: 0, N: 2}, api.Dot{Rep: 0, N: 1}, api.Dot{Rep: 0, N: 3}), context([]int{3})},
		{context(nil, api.Dot{Rep: 0, N: 3}, api.Dot{Rep: 1, N: 1}, api.Dot{Rep: 1, N: 2}), context([]int{0, 2}, api.Dot{Rep: 0, N: 3})},
		{context([]int{-1, math.MinInt, -7}, api.Dot{Rep: 1, N: 1}, api.Dot{Rep: 2, N: 2}), context([]int{0, 1, 0}, api.Dot{Rep: 2, N: 2})},
		{context([]int{top, top + 1, math.MaxInt, top - 1}, api.Dot{Rep: 1, N: top}, api.Dot{Rep: 0, N: top + 1}), context([]int{top, top, top, top - 1})},
		{context([]int{top - 3}, api.Dot{Rep: 0, N: top}, api.Dot{Rep: 0, N: top - 2}), context([]int{top - 2}, api.Dot{Rep: 0, N: top})},
		{context([]int{top - 2}, api.Dot{Rep: 0, N: top}, api.Dot{Rep: 0, N: top - 1}, api.Dot{Rep: 0, N: top + 1}), context([]int{top})},
		{context(nil, spoilt...), context(nil)},
		{context([]int{1}, append(slices.Clone(spoilt), api.Dot{Rep: 63, N: 9})...), context([]int{1}, api.Dot{Rep: 63, N: 9})},
	} {
		got := dots.Tidy(c.c)
		if !sameContext(got, c.want) {
			t.Errorf("%v: %v, not %v", c.c, got, c.want)
		}
		if again := dots.Tidy(got); !sameContext(again, got) {
			t.Errorf("%v is tidied as %v", got, again)
		}
		if dots.Whole(c.c) != (len(c.want.Cloud) == 0) {
			t.Errorf("%v: whole is %v", c.c, dots.Whole(c.c))
		}
	}
}

// The numbers that contexts of the tests below are made of; no dot of 10 is among them.
var (
	ends  = []int{math.MinInt, -1, 0, 0, 0, 1, 2, 4, 7, api.MaxCount - 4, api.MaxCount - 2, api.MaxCount, api.MaxCount + 1, math.MaxInt}
	loose = []int{1, 2, 3, 4, 5, 6, 7, 8, 9, api.MaxCount - 4, api.MaxCount - 3, api.MaxCount - 2, api.MaxCount - 1, api.MaxCount}
	whose = []int{0, 1, 40, 63}
)

// someContext is a context of such numbers.
func someContext(rnd *rand.Rand) api.Context {
	var c api.Context
	for _, rep := range whose {
		c.Upto[rep] = ends[rnd.Intn(len(ends))]
	}
	for range rnd.Intn(24) {
		d := api.Dot{Rep: whose[rnd.Intn(len(whose))], N: loose[rnd.Intn(len(loose))]}
		if rnd.Intn(8) == 0 {
			d = spoilt[rnd.Intn(len(spoilt))]
		}
		c.Cloud = append(c.Cloud, d)
	}
	return c
}

// asked is all dots by which such contexts are told from one another, and such as none has.
func asked() []api.Dot {
	l := slices.Clone(spoilt)
	for _, rep := range append([]int{2, 62}, whose...) {
		for _, n := range append([]int{-1, 0, 10, api.MaxCount + 1}, loose...) {
			l = append(l, api.Dot{Rep: rep, N: n})
		}
	}
	return l
}

// has tells by the words of the chapter whether a context has a dot.
func has(c api.Context, d api.Dot) bool {
	if d.Rep < 0 || d.Rep > 63 || d.N < 1 || d.N > 1<<30 {
		return false
	}
	for _, x := range c.Cloud {
		if x.Rep == d.Rep && x.N == d.N {
			return true
		}
	}
	return d.N <= c.Upto[d.Rep]
}

// inForm tells whether a context has the one form.
func inForm(c api.Context) bool {
	for _, n := range c.Upto {
		if n < 0 || n > 1<<30 {
			return false
		}
	}
	for i, d := range c.Cloud {
		if !dots.Valid(d) || d.N <= c.Upto[d.Rep]+1 || i > 0 && dots.Compare(c.Cloud[i-1], d) >= 0 {
			return false
		}
	}
	return true
}

// holds tells whether a context is the tidy one of those dots for which want holds.
func holds(t *testing.T, what any, c api.Context, want func(d api.Dot) bool) {
	t.Helper()
	if !inForm(c) {
		t.Fatalf("%v: %v is not tidy", what, c)
	}
	for _, d := range asked() {
		if dots.Knows(c, d) != want(d) || has(c, d) != want(d) {
			t.Fatalf("%v: %v, and %v is there: %v, not %v", what, c, d, has(c, d), want(d))
		}
	}
}

// P8.3
func TestContexts(t *testing.T) {
	rnd := rand.New(rand.NewSource(41))
	for range 1500 {
		a, b := someContext(rnd), someContext(rnd)
		for _, d := range asked() {
			if dots.Knows(a, d) != has(a, d) {
				t.Fatalf("%v knows %v: %v", a, d, dots.Knows(a, d))
			}
		}
		tidy := dots.Tidy(a)
		holds(t, a, tidy, func(d api.Dot) bool { return has(a, d) })
		if dots.Whole(a) != (len(tidy.Cloud) == 0) || dots.Whole(tidy) != dots.Whole(a) {
			t.Fatalf("%v whole: %v", a, dots.Whole(a))
		}
		l := b.Cloud
		holds(t, "Add", dots.Add(a, l...), func(d api.Dot) bool { return has(a, d) || slices.Contains(l, d) && dots.Valid(d) })
		holds(t, "Add none", dots.Add(a), func(d api.Dot) bool { return has(a, d) })
		holds(t, "Union", dots.Union(a, b), func(d api.Dot) bool { return has(a, d) || has(b, d) })
		holds(t, "Union with none", dots.Union(api.Context{}, a), func(d api.Dot) bool { return has(a, d) })
	}
}

// P8.3
func TestInside(t *testing.T) {
	rnd := rand.New(rand.NewSource(42))
	list := asked()
	inside := func(a, b api.Context) bool {
		return !slices.ContainsFunc(list, func(d api.Dot) bool { return has(a, d) && !has(b, d) })
	}
	yes := 0
	for range 1500 {
		a, b := someContext(rnd), someContext(rnd)
		if rnd.Intn(2) == 0 { // so that often one is inside the other one, but for some dots
			b = dots.Union(a, b)
			b.Cloud = b.Cloud[:rnd.Intn(len(b.Cloud)+1)]
		}
		for _, p := range [][2]api.Context{{a, b}, {b, a}, {a, a}, {dots.Tidy(a), a}, {a, dots.Tidy(a)}, {a, dots.Union(b, a)}, {api.Context{}, a}} {
			want := inside(p[0], p[1])
			if want {
				yes++
			}
			if dots.Inside(p[0], p[1]) != want {
				t.Fatalf("%v inside %v is not %v", p[0], p[1], want)
			}
		}
	}
	if yes < 1500 || yes > 1500*7-1500 {
		t.Error("too few of one kind", yes)
	}
	for _, c := range []struct {
		a, b api.Context
		want bool
	}{
		{context([]int{2}), context(nil, api.Dot{Rep: 0, N: 2}, api.Dot{Rep: 0, N: 1}), true},
		{context([]int{2}), context(nil, api.Dot{Rep: 0, N: 2}), false},
		{context([]int{-9}), context(nil), true},
		{context(nil), context([]int{-9}), true},
		{context([]int{math.MaxInt}), context([]int{api.MaxCount}), true},
		{context([]int{math.MaxInt}), context([]int{api.MaxCount - 1}), false},
		{context([]int{math.MaxInt}), context([]int{api.MaxCount - 1}, api.Dot{Rep: 0, N: api.MaxCount}), true},
		{context(nil, spoilt...), context(nil), true},
		{context(nil, api.Dot{Rep: 5, N: 9}), context(nil, api.Dot{Rep: 5, N: 8}), false},
		{context(nil, api.Dot{Rep: 5, N: 9}), context(nil, api.Dot{Rep: 4, N: 9}), false},
	} {
		if dots.Inside(c.a, c.b) != c.want {
			t.Errorf("%v inside %v is not %v", c.a, c.b, c.want)
		}
	}
}

// P8.3: at each replica's place.
func TestContextPlaces(t *testing.T) {
	for rep := range api.MaxReps {
		first, second, fourth := api.Dot{Rep: rep, N: 1}, api.Dot{Rep: rep, N: 2}, api.Dot{Rep: rep, N: 4}
		var want api.Context
		want.Upto[rep] = 2
		want.Cloud = []api.Dot{fourth}
		for _, c := range []api.Context{
			dots.Add(api.Context{}, fourth, first, second, first),
			dots.Union(context(nil, second, fourth), context(nil, first, second)),
			dots.Tidy(context(nil, first, first, fourth, second)),
		} {
			if !sameContext(c, want) {
				t.Errorf("%v, not %v", c, want)
			}
		}
	}
}

// P8.4: of contexts.
func TestUnionLattice(t *testing.T) {
	rnd := rand.New(rand.NewSource(43))
	for range 500 {
		a, b, c := someContext(rnd), someContext(rnd), someContext(rnd)
		want := dots.Union(dots.Union(a, b), c)
		for _, got := range []api.Context{
			dots.Union(a, dots.Union(b, c)),
			dots.Union(c, dots.Union(b, a)),
			dots.Union(dots.Union(b, c), dots.Union(a, b)),
			dots.Union(want, want),
			dots.Union(b, want),
			dots.Tidy(want),
		} {
			if !sameContext(got, want) {
				t.Fatalf("of %v, %v and %v: %v, not %v", a, b, c, got, want)
			}
		}
		l := append(slices.Clone(a.Cloud), b.Cloud...)
		added := dots.Add(c, l...)
		rnd.Shuffle(len(l), func(i, j int) { l[i], l[j] = l[j], l[i] })
		if got := dots.Add(dots.Add(c, l...), l...); !sameContext(got, added) {
			t.Fatalf("%v with %v: %v, not %v", c, l, got, added)
		}
	}
}

// P8.3: very many dots, in no order.
func TestManyDots(t *testing.T) {
	const many = 200000
	rnd := rand.New(rand.NewSource(44))
	var c api.Context
	for _, i := range rnd.Perm(many) {
		c.Cloud = append(c.Cloud, api.Dot{Rep: i % 64, N: i/64 + 1}, api.Dot{Rep: i % 64, N: 2*i + many})
	}
	got := dots.Tidy(c)
	if len(got.Cloud) != many || got.Upto[0] != many/64 || !dots.Inside(got, c) || !dots.Inside(c, got) {
		t.Error(len(got.Cloud), got.Upto)
	}
}

// P8.3: what is handed in stays as it is, and what comes is new memory.
func TestContextMemory(t *testing.T) {
	clouds := [][]api.Dot{
		{{Rep: 0, N: 3}, {Rep: 0, N: 9}, {Rep: 5, N: 4}},                 // tidy as it is
		{{Rep: 5, N: 4}, {Rep: 0, N: 1}, {Rep: 0, N: 9}, {Rep: 5, N: 4}}, // not
		{},
		nil,
	}
	for _, cloud := range clouds {
		room := append(slices.Clone(cloud), api.Dot{Rep: 7, N: 7}, api.Dot{Rep: 3, N: 2}, api.Dot{Rep: -1, N: 0}, api.Dot{Rep: 3, N: 1})
		was := slices.Clone(room)
		n := len(cloud)
		c := api.Context{Upto: api.Vector{1}, Cloud: room[:n]}
		other := api.Context{Cloud: room[n+1 : n+2]}
		l := room[n+2 : n+2]
		calls := []func() api.Context{
			func() api.Context { return dots.Tidy(c) },
			func() api.Context { return dots.Add(c) },
			func() api.Context { return dots.Add(c, l...) },
			func() api.Context { return dots.Add(api.Context{}, room[:n]...) },
			func() api.Context { return dots.Add(c, room[n+1:n+2]...) },
			func() api.Context { return dots.Union(c, other) },
			func() api.Context { return dots.Union(other, c) },
			func() api.Context { return dots.Union(c, api.Context{}) },
			func() api.Context { return dots.Union(api.Context{}, c) },
		}
		for k, call := range calls {
			got, again := call(), call()
			want := slices.Clone(again.Cloud)
			dots.Inside(c, other)
			dots.Inside(other, c)
			dots.Knows(c, api.Dot{Rep: 0, N: 9})
			dots.Whole(c)
			all := got.Cloud[:cap(got.Cloud)]
			for i := range all {
				all[i] = api.Dot{Rep: 55, N: 55}
			}
			if !slices.Equal(again.Cloud, want) {
				t.Errorf("call %d: two answers share memory", k)
			}
			if !slices.Equal(room, was) {
				t.Fatalf("call %d: what was handed in, or the room behind it, was changed", k)
			}
			clear(room)
			if !slices.Equal(again.Cloud, want) {
				t.Errorf("call %d: an answer is changed with what was handed in", k)
			}
			copy(room, was)
		}
	}
}
