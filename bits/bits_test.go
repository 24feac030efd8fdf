package bits_test

import (
	"math"
	"math/rand"
	"slices"
	"testing"

	"scholia/bits"
)

// sizes: about the ends of words, and the bounds.
var sizes = []int{0, 1, 2, 63, 64, 65, 70, 127, 128, 129, 300, 65535, 65536}

// strange: numbers that are in no set.
var strange = []int{-1, -2, -63, -64, -65, math.MinInt, math.MinInt + 1, math.MinInt + 63, 65536, 65537, 1 << 31, 1 << 32, 1<<32 + 1, 1 << 62, math.MaxInt - 63, math.MaxInt - 1, math.MaxInt}

// made is a set of some numbers.
func made(t *testing.T, size int, l ...int) *bits.Set {
	t.Helper()
	s := bits.New(size)
	for _, i := range l {
		if !s.Put(i) {
			t.Fatalf("%d does not go into a set of the size %d", i, size)
		}
	}
	return s
}

// holds tells whether a set has a size, and just the numbers of a list that rises, whichever way it is asked.
func holds(t *testing.T, what any, s *bits.Set, size int, l ...int) {
	t.Helper()
	if s == nil {
		t.Fatalf("%v: no set", what)
	}
	if s.Size() != size || s.Count() != len(l) || !slices.Equal(s.List(), l) {
		t.Fatalf("%v: size %d, count %d, list %v; not %d, %d, %v", what, s.Size(), s.Count(), s.List(), size, len(l), l)
	}
	for _, i := range places(size) {
		rank, has := slices.BinarySearch(l, i)
		next := -1
		if rank < len(l) {
			next = l[rank]
		}
		if s.Has(i) != has || s.Rank(i) != rank || s.Next(i) != next {
			t.Fatalf("%v: at %d: has %v, rank %d, next %d; not %v, %d, %d", what, i, s.Has(i), s.Rank(i), s.Next(i), has, rank, next)
		}
	}
}

// places is numbers to ask a set of some size about: all of a small one, of a great one some, and those beyond.
func places(size int) []int {
	l := append([]int{size - 1, size, size + 1, size + 64}, strange...)
	for i := 0; i < size; i += 1 + size/1000 {
		l = append(l, i)
	}
	return l
}

// P5.1
func TestNew(t *testing.T) {
	for _, n := range sizes {
		holds(t, n, bits.New(n), n)
	}
	for _, n := range []int{-1, -64, math.MinInt, math.MinInt + 1} {
		holds(t, n, bits.New(n), 0)
	}
	for _, n := range []int{65537, 1 << 20, 1 << 32, math.MaxInt - 63, math.MaxInt} {
		if s := bits.New(n); s.Size() != 65536 || !s.Put(65535) || s.Put(65536) || s.Count() != 1 {
			t.Errorf("%d: size %d", n, s.Size())
		}
	}
}

// P5.1
func TestExample(t *testing.T) {
	s := made(t, 70, 3, 68)
	if s.Rank(68) != 1 || s.Next(4) != 68 {
		t.Error(s.Rank(68), s.Next(4))
	}
	holds(t, "example", s, 70, 3, 68)
}

// P5.1: each number by itself.
func TestPutCut(t *testing.T) {
	for _, size := range sizes[:11] {
		s := bits.New(size)
		for i := range size {
			if s.Has(i) || !s.Put(i) || !s.Has(i) || !s.Put(i) {
				t.Fatalf("%d of %d does not go in", i, size)
			}
			holds(t, i, s, size, i)
			if !s.Cut(i) || s.Has(i) || !s.Cut(i) {
				t.Fatalf("%d of %d does not go out", i, size)
			}
			if s.Count() != 0 {
				t.Fatalf("%d of %d is left", i, size)
			}
		}
	}
}

// P5.1: numbers that a set does not have.
func TestPutBeyond(t *testing.T) {
	for _, size := range sizes {
		for _, l := range [][]int{nil, {0}, {size - 1}} {
			if size == 0 {
				l = nil
			}
			s := made(t, size, l...)
			for _, i := range append([]int{size, size + 1, size + 63, size + 64}, strange...) {
				if i >= 0 && i < size {
					continue
				}
				if s.Put(i) || s.Cut(i) || s.Has(i) {
					t.Errorf("%d goes into a set of the size %d", i, size)
				}
			}
			if !slices.Equal(s.List(), l) || s.Size() != size {
				t.Errorf("size %d: %v became %v", size, l, s.List())
			}
		}
	}
}

// P5.1, P5.4: whatever was put in and taken out.
func TestAgainstMap(t *testing.T) {
	rnd := rand.New(rand.NewSource(5))
	for range 200 {
		size := rnd.Intn(200)
		s, in := bits.New(size), map[int]bool{}
		for range rnd.Intn(3 * (size + 1)) {
			i := rnd.Intn(size+3) - 1
			ok := i >= 0 && i < size
			if rnd.Intn(3) > 0 {
				if s.Put(i) != ok {
					t.Fatalf("Put of %d, size %d", i, size)
				}
				in[i] = in[i] || ok
			} else {
				if s.Cut(i) != ok {
					t.Fatalf("Cut of %d, size %d", i, size)
				}
				delete(in, i)
			}
		}
		holds(t, "some", s, size, members(in)...)
	}
}

// members is what a map says is in, rising.
func members(in map[int]bool) []int {
	var l []int
	for i, ok := range in {
		if ok {
			l = append(l, i)
		}
	}
	slices.Sort(l)
	return l
}

// P5.1: a whole one, of the greatest size.
func TestFull(t *testing.T) {
	s := bits.New(65536)
	var all []int
	for i := range 65536 {
		s.Put(i)
		all = append(all, i)
	}
	holds(t, "full", s, 65536, all...)
	holds(t, "with nothing", bits.Less(s, s), 65536)
	holds(t, "of 70", bits.And(s, bits.Or(s, bits.New(70))), 70, all[:70]...)
}

// P5.1
func TestAndOrLess(t *testing.T) {
	rnd := rand.New(rand.NewSource(6))
	some := []int{0, 1, 5, 63, 64, 65, 70, 127, 128, 150}
	for range 3 {
		for _, n := range some {
			for _, m := range some {
				a, b := bits.New(n), bits.New(m)
				var and, or, less []int
				for i := range max(n, m) {
					x, y := rnd.Intn(2) == 0 && a.Put(i), rnd.Intn(2) == 0 && b.Put(i)
					if i >= min(n, m) {
						continue
					}
					if x && y {
						and = append(and, i)
					}
					if x || y {
						or = append(or, i)
					}
					if x && !y {
						less = append(less, i)
					}
				}
				la, lb := a.List(), b.List()
				holds(t, "and", bits.And(a, b), min(n, m), and...)
				holds(t, "or", bits.Or(a, b), min(n, m), or...)
				holds(t, "less", bits.Less(a, b), min(n, m), less...)
				holds(t, "the first", a, n, la...)
				holds(t, "the second", b, m, lb...)
			}
		}
	}
	s := made(t, 70, 3, 68)
	holds(t, "and itself", bits.And(s, s), 70, 3, 68)
	holds(t, "or itself", bits.Or(s, s), 70, 3, 68)
	holds(t, "less itself", bits.Less(s, s), 70)
}

// P5.1: what is made of sets knows nothing of them.
func TestApart(t *testing.T) {
	for name, make := range map[string]func(s *bits.Set) *bits.Set{
		"Clone":    (*bits.Set).Clone,
		"And":      func(s *bits.Set) *bits.Set { return bits.And(s, s) },
		"Or":       func(s *bits.Set) *bits.Set { return bits.Or(s, s) },
		"Less":     func(s *bits.Set) *bits.Set { return bits.Less(s, bits.New(130)) },
		"And more": func(s *bits.Set) *bits.Set { return bits.And(bits.Or(s, s), s) },
	} {
		s := made(t, 130, 3, 64, 129)
		c := make(s)
		holds(t, name, c, 130, 3, 64, 129)
		s.Cut(3)
		s.Put(4)
		holds(t, name, c, 130, 3, 64, 129)
		c.Put(100)
		c.Cut(129)
		holds(t, name, s, 130, 4, 64, 129)
		holds(t, name, c, 130, 3, 64, 100)
	}
	s := made(t, 70, 3, 68)
	l := s.List()
	l = l[:cap(l)]
	for i := range l {
		l[i] = 9
	}
	holds(t, "behind List", s, 70, 3, 68)
}

// P5.1: a set that no call made has the size 0.
func TestNoSet(t *testing.T) {
	for _, s := range []*bits.Set{nil, {}, new(bits.Set)} {
		for _, i := range append([]int{0, 1, 64}, strange...) {
			if s.Has(i) || s.Put(i) || s.Cut(i) || s.Rank(i) != 0 || s.Next(i) != -1 {
				t.Errorf("of no set at %d: %v %d %d", i, s.Has(i), s.Rank(i), s.Next(i))
			}
		}
		if s.Size() != 0 || s.Count() != 0 || len(s.List()) != 0 || string(s.Bytes()) != "\x00\x00" {
			t.Error("no set has something", s.Bytes())
		}
		holds(t, "clone of no set", s.Clone(), 0)
		other := made(t, 70, 3, 68)
		for _, of := range []func(a, b *bits.Set) *bits.Set{bits.And, bits.Or, bits.Less} {
			holds(t, "no set and one", of(s, other), 0)
			holds(t, "one and no set", of(other, s), 0)
			holds(t, "no set twice", of(s, s), 0)
			holds(t, "no set and none", of(s, nil), 0)
		}
		holds(t, "the other", other, 70, 3, 68)
	}
}

// P5.4
func TestRanks(t *testing.T) {
	s := made(t, 300, 0, 1, 62, 63, 64, 65, 127, 128, 191, 256, 299)
	l := s.List()
	for k, i := range l {
		if s.Rank(i) != k || s.Rank(i+1) != k+1 {
			t.Errorf("rank of %d: %d", i, s.Rank(i))
		}
		next := -1
		if k+1 < len(l) {
			next = l[k+1]
		}
		if s.Next(i) != i || s.Next(i+1) != next {
			t.Errorf("next of %d: %d", i, s.Next(i+1))
		}
	}
}
