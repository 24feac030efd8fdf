package dots_test

import (
	"math"
	"math/rand"
	"testing"

	"scholia/api"
	"scholia/dots"
)

// below, inside and beyond: numbers that no event has, such as one may have, and such as are above all.
var (
	below  = []int{math.MinInt, math.MinInt + 1, -1 << 32, -1 << 30, -64, -1, 0}
	inside = []int{1, 2, 63, 64, 65, 127, 128, 1 << 29, api.MaxCount - 1, api.MaxCount}
	beyond = []int{api.MaxCount + 1, 1 << 31, 1<<32 + 1, 1 << 40, 1 << 62, math.MaxInt - 1, math.MaxInt}
)

// nobody: numbers of no replica.
var nobody = []int{math.MinInt, -1 << 32, -64, -1, 64, 65, 127, 128, 1 << 32, 1<<32 + 1, math.MaxInt}

// numbers is all of them, rising.
func numbers() []int {
	var l []int
	for _, some := range [][]int{below, inside, beyond} {
		l = append(l, some...)
	}
	return l
}

// someVector is a vector of such numbers.
func someVector(rnd *rand.Rand, some []int) api.Vector {
	var v api.Vector
	for rep := range v {
		v[rep] = some[rnd.Intn(len(some))]
	}
	return v
}

// P8.1
func TestValid(t *testing.T) {
	for rep := range api.MaxReps {
		for _, n := range inside {
			if !dots.Valid(api.Dot{Rep: rep, N: n}) {
				t.Errorf("%d.%d is not valid", rep, n)
			}
		}
		for _, some := range [][]int{below, beyond} {
			for _, n := range some {
				if dots.Valid(api.Dot{Rep: rep, N: n}) {
					t.Errorf("%d.%d is valid", rep, n)
				}
			}
		}
	}
	for _, rep := range nobody {
		for _, n := range numbers() {
			if dots.Valid(api.Dot{Rep: rep, N: n}) {
				t.Errorf("%d.%d is valid", rep, n)
			}
		}
	}
}

// P8.1: by Rep, then by N, of dots that may not be too.
func TestCompare(t *testing.T) {
	var l []api.Dot
	for _, rep := range []int{math.MinInt, -1, 0, 1, 2, 63, 64, math.MaxInt} {
		for _, n := range []int{math.MinInt, -1, 0, 1, 2, api.MaxCount, api.MaxCount + 1, math.MaxInt} {
			l = append(l, api.Dot{Rep: rep, N: n})
		}
	}
	for i, a := range l {
		for j, b := range l {
			want := 0
			if i < j {
				want = -1
			} else if i > j {
				want = 1
			}
			if got := dots.Compare(a, b); got != want {
				t.Errorf("%v and %v: %d, not %d", a, b, got, want)
			}
		}
	}
}

// P8.1
func TestHas(t *testing.T) {
	for _, rep := range []int{0, 1, 31, 62, 63} {
		for _, upto := range numbers() {
			var v api.Vector
			v[rep] = upto
			for _, n := range numbers() {
				d := api.Dot{Rep: rep, N: n}
				want := n >= 1 && n <= api.MaxCount && n <= upto
				if dots.Has(v, d) != want {
					t.Errorf("up to %d, %d of replica %d is not %v", upto, n, rep, want)
				}
				if d.Rep = 63 - rep; rep != d.Rep && dots.Has(v, d) {
					t.Errorf("up to %d of replica %d, and %v is there", upto, rep, d)
				}
			}
		}
	}
	var all api.Vector
	for rep := range all {
		all[rep] = math.MaxInt
	}
	for _, rep := range nobody {
		for _, n := range numbers() {
			if dots.Has(all, api.Dot{Rep: rep, N: n}) {
				t.Errorf("%d of replica %d is there", n, rep)
			}
		}
	}
}

// P8.1
func TestWith(t *testing.T) {
	rnd := rand.New(rand.NewSource(21))
	for _, rep := range []int{0, 1, 30, 62, 63} {
		for _, upto := range numbers() {
			for _, n := range numbers() {
				v := someVector(rnd, numbers())
				v[rep] = upto
				want := v
				if n >= 1 && n <= api.MaxCount && n > upto {
					want[rep] = n
				}
				if got := dots.With(v, api.Dot{Rep: rep, N: n}); got != want {
					t.Errorf("up to %d with %d of replica %d: %v", upto, n, rep, got)
				}
			}
		}
	}
	for _, rep := range nobody {
		v := someVector(rnd, numbers())
		if got := dots.With(v, api.Dot{Rep: rep, N: 5}); got != v {
			t.Errorf("with one of replica %d: %v", rep, got)
		}
	}
}

// P8.1: place by place, whatever stands there.
func TestJoinMeet(t *testing.T) {
	rnd := rand.New(rand.NewSource(22))
	for range 300 {
		a, b := someVector(rnd, numbers()), someVector(rnd, numbers())
		var join, meet api.Vector
		for rep := range a {
			if a[rep] < b[rep] {
				join[rep], meet[rep] = b[rep], a[rep]
			} else {
				join[rep], meet[rep] = a[rep], b[rep]
			}
		}
		if got := dots.Join(a, b); got != join {
			t.Fatalf("join of %v and %v: %v", a, b, got)
		}
		if got := dots.Meet(a, b); got != meet {
			t.Fatalf("meet of %v and %v: %v", a, b, got)
		}
	}
}

// P8.1: one place is enough.
func TestWithin(t *testing.T) {
	rnd := rand.New(rand.NewSource(23))
	some := numbers()
	for rep := range api.MaxReps {
		a := someVector(rnd, some)
		if !dots.Within(a, a) {
			t.Fatalf("%v is not within itself", a)
		}
		for i := range some {
			for j := range some {
				a[rep] = some[i]
				b := a
				b[rep] = some[j]
				if dots.Within(a, b) != (i <= j) {
					t.Errorf("at %d, %d within %d is not %v", rep, some[i], some[j], i <= j)
				}
			}
		}
	}
	a, b := api.Vector{1, 5}, api.Vector{2, 4}
	if dots.Within(a, b) || dots.Within(b, a) {
		t.Error("neither has what the other one has")
	}
	if !dots.Within(api.Vector{-5}, api.Vector{}) || dots.Within(api.Vector{}, api.Vector{-5}) {
		t.Error("numbers below 0 are held against one another as they are")
	}
}

// P8.1
func TestGood(t *testing.T) {
	rnd := rand.New(rand.NewSource(24))
	good := append([]int{0}, inside...)
	for rep := range api.MaxReps {
		v := someVector(rnd, good)
		for _, n := range numbers() {
			v[rep] = n
			if want := n >= 0 && n <= api.MaxCount; dots.Good(v) != want {
				t.Errorf("%d at %d is not %v", n, rep, want)
			}
		}
	}
	if !dots.Good(api.Vector{}) {
		t.Error("zero is not good")
	}
}

// P8.4: of vectors; whichever way several are joined, or met.
func TestLattice(t *testing.T) {
	rnd := rand.New(rand.NewSource(25))
	for _, op := range []func(a, b api.Vector) api.Vector{dots.Join, dots.Meet} {
		for range 200 {
			a, b, c := someVector(rnd, numbers()), someVector(rnd, numbers()), someVector(rnd, numbers())
			want := op(op(a, b), c)
			for _, got := range []api.Vector{op(a, op(b, c)), op(c, op(b, a)), op(op(b, c), op(a, b)), op(want, b), op(want, want), op(op(c, c), op(a, b))} {
				if got != want {
					t.Fatalf("of %v, %v and %v: %v, not %v", a, b, c, got, want)
				}
			}
			if dots.Join(a, dots.Meet(a, b)) != a || dots.Meet(a, dots.Join(a, b)) != a {
				t.Fatalf("%v is lost in %v", a, b)
			}
			if !dots.Within(a, dots.Join(a, b)) || !dots.Within(dots.Meet(a, b), b) {
				t.Fatalf("%v and %v: not between meet and join", a, b)
			}
		}
	}
}

// P8.1: what is handed in is not changed.
func TestVectorsStay(t *testing.T) {
	rnd := rand.New(rand.NewSource(26))
	a, b := someVector(rnd, numbers()), someVector(rnd, numbers())
	wasA, wasB := a, b
	v := dots.With(dots.Meet(dots.Join(a, b), a), api.Dot{Rep: 3, N: api.MaxCount})
	v[5] = 77
	dots.Within(a, b)
	dots.Good(a)
	dots.Has(a, api.Dot{Rep: 1, N: 1})
	if a != wasA || b != wasB {
		t.Error("a vector was changed")
	}
}
