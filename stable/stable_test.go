package stable_test

import (
	"math"
	"math/rand"
	"slices"
	"testing"

	"scholia/api"
	"scholia/stable"
)

// P9.1
func TestNext(t *testing.T) {
	for _, c := range []struct {
		time, want int
		e          api.Errno
	}{
		{math.MinInt, 1, api.OK},
		{math.MinInt + 1, 1, api.OK},
		{-1 << 40, 1, api.OK},
		{-2, 1, api.OK},
		{-1, 1, api.OK},
		{0, 1, api.OK},
		{1, 2, api.OK},
		{1<<32 - 1, 1 << 32, api.OK},
		{api.MaxTime - 2, api.MaxTime - 1, api.OK},
		{api.MaxTime - 1, api.MaxTime, api.OK},
		{api.MaxTime, 0, api.EOVER},
		{api.MaxTime + 1, 0, api.EOVER},
		{math.MaxInt - 1, 0, api.EOVER},
		{math.MaxInt, 0, api.EOVER},
	} {
		if got, e := stable.Next(c.time); got != c.want || e != c.e {
			t.Errorf("behind %d: %d, error %d; not %d, %d", c.time, got, e, c.want, c.e)
		}
	}
}

// P9.1: by Time, then by Rep, then by N, whatever they are; by nothing else.
func TestCompare(t *testing.T) {
	var l []api.Write
	for _, time := range []int{math.MinInt, -1, 0, 1, api.MaxTime, api.MaxTime + 1, math.MaxInt} {
		for _, rep := range []int{math.MinInt, -1, 0, 1, 63, 64, math.MaxInt} {
			for _, n := range []int{math.MinInt, 0, 1, 2, api.MaxCount, math.MaxInt} {
				l = append(l, api.Write{Dot: api.Dot{Rep: rep, N: n}, Time: time})
			}
		}
	}
	for i, a := range l {
		for j, b := range l {
			want := 0
			if i < j {
				want = -1
			} else if i > j {
				want = 1
			}
			// What they wrote stands the other way round.
			a.Doc, b.Doc = "b", "a"
			a.Field, b.Field = 4, 1
			a.Text, b.Text = "y", "x"
			if got := stable.Compare(a, b); got != want {
				t.Fatalf("%v and %v: %d, not %d", a, b, got, want)
			}
		}
	}
}

// P9.1
func TestLatest(t *testing.T) {
	for _, c := range []struct {
		times []int
		want  int
	}{
		{nil, 0},
		{[]int{}, 0},
		{[]int{0}, 0},
		{[]int{-1}, 0},
		{[]int{math.MinInt, -7, math.MinInt}, 0},
		{[]int{7}, 7},
		{[]int{7, 3, 5}, 7},
		{[]int{3, 7, 5}, 7},
		{[]int{3, 5, 7, 7}, 7},
		{[]int{-3, 1, -9}, 1},
		{[]int{5, api.MaxTime, 6}, api.MaxTime},
		{[]int{api.MaxTime + 1, 6}, api.MaxTime + 1},
		{[]int{0, math.MaxInt, math.MinInt}, math.MaxInt},
	} {
		var l []api.Write
		for i, time := range c.times {
			l = append(l, api.Write{Dot: api.Dot{Rep: i, N: 100 - i}, Time: time, Doc: "a"})
		}
		was := slices.Clone(l)
		if got := stable.Latest(l); got != c.want {
			t.Errorf("of %v: %d, not %d", c.times, got, c.want)
		}
		if !slices.Equal(l, was) {
			t.Error("the writes were changed")
		}
	}
}

// P9.1: whatever they are put in order by is one order.
func TestInOrder(t *testing.T) {
	rnd := rand.New(rand.NewSource(51))
	var l []api.Write
	for range 300 {
		l = append(l, api.Write{Time: rnd.Intn(9), Dot: api.Dot{Rep: rnd.Intn(4), N: rnd.Intn(9)}})
	}
	slices.SortFunc(l, stable.Compare)
	for i := 1; i < len(l); i++ {
		a, b := l[i-1], l[i]
		if a.Time > b.Time || a.Time == b.Time && (a.Dot.Rep > b.Dot.Rep || a.Dot.Rep == b.Dot.Rep && a.Dot.N > b.Dot.N) {
			t.Fatalf("%v stands ahead of %v", a, b)
		}
	}
	if l[len(l)-1].Time != stable.Latest(l) {
		t.Error(stable.Latest(l))
	}
}
