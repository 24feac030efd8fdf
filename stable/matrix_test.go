package stable_test

import (
	"math"
	"math/rand"
	"slices"
	"testing"

	"scholia/api"
	"scholia/stable"
)

// strange: numbers of no replica, whatever the matrix; all but 64 none of how many there may be.
var strange = []int{math.MinInt, math.MinInt + 1, -1 << 32, -64, -2, -1, 64, 65, 128, 1 << 31, 1 << 32, 1<<32 + 1, math.MaxInt}

// holds tells whether a matrix has just these rows, whichever way it is asked.
func holds(t *testing.T, what any, m *stable.Matrix, rows []api.Vector) {
	t.Helper()
	if m.Size() != len(rows) {
		t.Fatalf("%v: %d rows, not %d", what, m.Size(), len(rows))
	}
	var all api.Vector
	for place := range all {
		for rep, row := range rows {
			if rep == 0 || row[place] < all[place] {
				all[place] = row[place]
			}
		}
	}
	if m.Stable() != all {
		t.Fatalf("%v: stable is %v, not %v", what, m.Stable(), all)
	}
	for rep, row := range rows {
		if m.Row(rep) != row {
			t.Fatalf("%v: row %d is %v, not %v", what, rep, m.Row(rep), row)
		}
	}
	for _, rep := range append([]int{len(rows)}, strange...) {
		if m.Row(rep) != (api.Vector{}) {
			t.Fatalf("%v: row %d is %v", what, rep, m.Row(rep))
		}
	}
	for _, v := range append([]api.Vector{{}, all, {1}, {63: 1}}, rows...) {
		if got, want := m.Lacks(v), lacks(rows, v); !slices.Equal(got, want) {
			t.Fatalf("%v: %v lack %v, not %v", what, got, v, want)
		}
	}
}

// lacks tells by the words of the chapter which rows have not all of a vector.
func lacks(rows []api.Vector, v api.Vector) []int {
	var l []int
	for rep, row := range rows {
		for place := range row {
			if v[place] > row[place] {
				l = append(l, rep)
				break
			}
		}
	}
	return l
}

// P9.2
func TestNew(t *testing.T) {
	for n := 1; n <= 64; n++ {
		m := stable.New(n)
		if m == nil {
			t.Fatalf("no matrix of %d", n)
		}
		holds(t, n, m, make([]api.Vector, n))
		if m.Note(n, api.Vector{1}) || m.Note(-1, api.Vector{1}) || !m.Note(n-1, api.Vector{1}) {
			t.Errorf("of %d: one more, or one less", n)
		}
	}
	for _, n := range append([]int{0}, strange...) {
		if n != 64 && stable.New(n) != nil {
			t.Errorf("a matrix of %d", n)
		}
	}
}

// P9.2: the chapter's example.
func TestExample(t *testing.T) {
	m := stable.New(2)
	m.Note(0, api.Vector{3, 1})
	m.Note(1, api.Vector{2, 5})
	if m.Stable() != (api.Vector{2, 1}) {
		t.Error(m.Stable())
	}
	for _, c := range []struct {
		v    api.Vector
		want []int
	}{
		{api.Vector{}, nil},
		{api.Vector{2, 1}, nil},
		{api.Vector{3}, []int{1}},
		{api.Vector{0, 2}, []int{0}},
		{api.Vector{3, 2}, []int{0, 1}},
		{api.Vector{2: 1}, []int{0, 1}},
		{api.Vector{-1, 1}, nil},
	} {
		if got := m.Lacks(c.v); !slices.Equal(got, c.want) {
			t.Errorf("%v lack %v, not %v", got, c.v, c.want)
		}
	}
}

// P9.2: a row is joined with what is noted, which may be any vector; a number that may not be stays as it is.
func TestNote(t *testing.T) {
	m := stable.New(3)
	rows := make([]api.Vector, 3)
	for _, c := range []struct {
		rep  int
		v    api.Vector
		want api.Vector
	}{
		{1, api.Vector{5, 0, 2}, api.Vector{5, 0, 2}},
		{1, api.Vector{3, 4, 2}, api.Vector{5, 4, 2}},
		{1, api.Vector{}, api.Vector{5, 4, 2}},
		{1, api.Vector{-1, math.MinInt, 3}, api.Vector{5, 4, 3}},
		{2, api.Vector{-1, math.MinInt, 63: -1}, api.Vector{}},
		{0, api.Vector{63: api.MaxCount}, api.Vector{63: api.MaxCount}},
		{0, api.Vector{62: api.MaxCount + 1, 63: 1}, api.Vector{62: api.MaxCount + 1, 63: api.MaxCount}},
		{0, api.Vector{math.MaxInt}, api.Vector{math.MaxInt, 62: api.MaxCount + 1, 63: api.MaxCount}},
	} {
		if !m.Note(c.rep, c.v) {
			t.Errorf("there is no %d", c.rep)
		}
		rows[c.rep] = c.want
		holds(t, c, m, rows)
	}
	for _, rep := range append([]int{3, 4, 63}, strange...) {
		if m.Note(rep, api.Vector{9, 9, 9}) {
			t.Errorf("there is a %d", rep)
		}
		holds(t, rep, m, rows)
	}
}

// someVector is a vector of small numbers, and some that may not be.
func someVector(rnd *rand.Rand) api.Vector {
	odd := []int{math.MinInt, -1, api.MaxCount, api.MaxCount + 1, math.MaxInt}
	var v api.Vector
	for range rnd.Intn(120) {
		v[rnd.Intn(64)] = rnd.Intn(9)
	}
	if rnd.Intn(4) == 0 {
		v[rnd.Intn(64)] = odd[rnd.Intn(len(odd))]
	}
	return v
}

// P9.2, P9.3: whatever is noted, stable never falls, and is within each row.
func TestSlow(t *testing.T) {
	rnd := rand.New(rand.NewSource(52))
	for _, n := range []int{1, 2, 3, 17, 64} {
		m := stable.New(n)
		rows := make([]api.Vector, n)
		var was api.Vector
		for range 400 {
			rep, v := rnd.Intn(n+2)-1, someVector(rnd)
			if m.Note(rep, v) != (rep >= 0 && rep < n) {
				t.Fatalf("of %d, Note of %d", n, rep)
			}
			if rep >= 0 && rep < n {
				for place := range v {
					rows[rep][place] = max(rows[rep][place], v[place])
				}
			}
			all := m.Stable()
			for place := range all {
				if all[place] < was[place] {
					t.Fatalf("stable fell at %d from %d to %d", place, was[place], all[place])
				}
				for i := range n {
					if row := m.Row(i); all[place] > row[place] {
						t.Fatalf("stable is %d at %d, row %d %d", all[place], place, i, row[place])
					}
				}
			}
			if len(m.Lacks(all)) != 0 {
				t.Fatalf("%v lack what all have", m.Lacks(all))
			}
			was = all
		}
		holds(t, n, m, rows)
	}
}

// P9.2: a matrix that no call made.
func TestNoMatrix(t *testing.T) {
	for _, m := range []*stable.Matrix{nil, {}, new(stable.Matrix), stable.New(0)} {
		for range 2 {
			holds(t, "none", m, nil)
			for _, rep := range append([]int{0, 1, 63}, strange...) {
				if m.Note(rep, api.Vector{1}) {
					t.Errorf("there is a %d", rep)
				}
			}
		}
	}
}

// P9.2: what is handed in or out is not the matrix', and two know nothing of one another.
func TestMemory(t *testing.T) {
	m, other := stable.New(3), stable.New(3)
	v := api.Vector{4, 5}
	m.Note(1, v)
	v[0] = 99
	rows := []api.Vector{{}, {4, 5}, {}}
	holds(t, "noted", m, rows)
	row, all := m.Row(1), m.Stable()
	row[1], all[0] = 99, 99
	holds(t, "told", m, rows)

	l, again := m.Lacks(api.Vector{1}), m.Lacks(api.Vector{1})
	l = l[:cap(l)]
	for i := range l {
		l[i] = 55
	}
	if !slices.Equal(again, []int{0, 2}) {
		t.Error("two answers share memory", again)
	}
	m.Note(0, api.Vector{1})
	if !slices.Equal(again, []int{0, 2}) {
		t.Error("an answer was changed by a later call", again)
	}
	holds(t, "behind Lacks", m, []api.Vector{{1}, {4, 5}, {}})
	holds(t, "the other", other, make([]api.Vector, 3))
}
