package sorted_test

import (
	"cmp"
	"maps"
	"math"
	"math/rand"
	"slices"
	"strconv"
	"testing"

	"scholia/sorted"
)

// stands tells whether a table has just the keys of a map, with what stands by them.
func stands[K cmp.Ordered](t *testing.T, what any, tab *sorted.Table[K, int], want map[K]int) {
	t.Helper()
	keys := slices.Sorted(maps.Keys(want))
	if tab.Len() != len(keys) || !slices.Equal(tab.Keys(), keys) {
		t.Fatalf("%v: %d keys %v, not %v", what, tab.Len(), tab.Keys(), keys)
	}
	for i, k := range keys {
		at, there := tab.Seek(k)
		val, ok := tab.Get(k)
		if at != i || !there || val != want[k] || !ok {
			t.Fatalf("%v: %v at %d %v, by it %d %v; not at %d, by it %d", what, k, at, there, val, ok, i, want[k])
		}
	}
}

// lacks tells whether a key is not there, and so many are below it.
func lacks[K cmp.Ordered](t *testing.T, tab *sorted.Table[K, int], key K, below int) {
	t.Helper()
	n := tab.Len()
	at, there := tab.Seek(key)
	val, ok := tab.Get(key)
	if at != below || there || val != 0 || ok || tab.Cut(key) || tab.Len() != n {
		t.Errorf("%v is there: at %d %v, by it %d %v; %d should be below", key, at, there, val, ok, below)
	}
}

// P6.1
func TestTable(t *testing.T) {
	var tab sorted.Table[string, int]
	stands(t, "zero", &tab, nil)
	lacks(t, &tab, "", 0)
	lacks(t, &tab, "fox", 0)
	for i, k := range []string{"hen", "", "fox", "foxes", "\xff", "fo", "\u00e9", "Hen"} {
		if !tab.Put(k, i+1) {
			t.Errorf("%q was there", k)
		}
	}
	want := map[string]int{"hen": 1, "": 2, "fox": 3, "foxes": 4, "\xff": 5, "fo": 6, "\u00e9": 7, "Hen": 8}
	stands(t, "put", &tab, want)
	lacks(t, &tab, "f", 2)
	lacks(t, &tab, "fox ", 4)
	lacks(t, &tab, "\xff\xff", 8)

	if tab.Put("fox", 33) || tab.Put("", 0) {
		t.Error("what is there was not there")
	}
	want["fox"], want[""] = 33, 0
	stands(t, "put again", &tab, want)

	for _, k := range []string{"", "\xff", "fox"} {
		if !tab.Cut(k) {
			t.Errorf("%q was not there", k)
		}
		if tab.Cut(k) {
			t.Errorf("%q was there twice", k)
		}
		delete(want, k)
		stands(t, "cut", &tab, want)
	}
	lacks(t, &tab, "fox", 2)
	if !tab.Put("fox", 9) {
		t.Error("what was cut was there")
	}
	want["fox"] = 9
	stands(t, "put once more", &tab, want)
}

// P6.1: whatever was put and cut.
func TestTableAgainstMap(t *testing.T) {
	rnd := rand.New(rand.NewSource(8))
	for range 50 {
		var tab sorted.Table[int, int]
		want := map[int]int{}
		for i := range rnd.Intn(300) {
			k := rnd.Intn(60) - 30
			_, was := want[k]
			if rnd.Intn(3) > 0 {
				if tab.Put(k, i) == was {
					t.Fatalf("Put of %d, there: %v", k, was)
				}
				want[k] = i
			} else {
				if tab.Cut(k) != was {
					t.Fatalf("Cut of %d, there: %v", k, was)
				}
				delete(want, k)
			}
		}
		stands(t, "some", &tab, want)
		keys := tab.Keys()
		for k := -31; k <= 31; k++ {
			if _, ok := want[k]; !ok {
				below := 0
				for below < len(keys) && keys[below] < k {
					below++
				}
				lacks(t, &tab, k, below)
			}
		}
	}
}

// P6.1: keys of all 64 bits, and of other kinds.
func TestTableKinds(t *testing.T) {
	var ints sorted.Table[int, int]
	for i, k := range []int{0, math.MaxInt, math.MinInt, -1, 1} {
		ints.Put(k, i)
	}
	stands(t, "ints", &ints, map[int]int{0: 0, math.MaxInt: 1, math.MinInt: 2, -1: 3, 1: 4})
	var bytes sorted.Table[byte, int]
	for k := 255; k >= 0; k-- {
		bytes.Put(byte(k), -k)
	}
	if at, ok := bytes.Seek(200); at != 200 || !ok || bytes.Len() != 256 {
		t.Error(at, ok, bytes.Len())
	}

	// A number that is none is one key, below all others.
	var floats sorted.Table[float64, int]
	for i, k := range []float64{1, math.NaN(), math.Inf(-1), 0} {
		if !floats.Put(k, i) {
			t.Errorf("%v was there", k)
		}
	}
	if floats.Put(math.NaN(), 7) || floats.Put(math.Copysign(0, -1), 8) || floats.Len() != 4 {
		t.Error("one key stands twice", floats.Keys())
	}
	if at, ok := floats.Seek(math.NaN()); at != 0 || !ok {
		t.Error(at, ok)
	}
	if v, ok := floats.Get(math.NaN()); v != 7 || !ok {
		t.Error(v, ok)
	}
	if v, ok := floats.Get(0); v != 8 || !ok {
		t.Error(v, ok)
	}
	if !floats.Cut(math.NaN()) || floats.Cut(math.NaN()) {
		t.Error("Cut of a number that is none")
	}
	stands(t, "floats", &floats, map[float64]int{1: 0, math.Inf(-1): 2, 0: 8})
}

// P6.1: a nil table is empty, and stays so.
func TestNoTable(t *testing.T) {
	var tab *sorted.Table[string, int]
	for range 2 {
		stands(t, "nil", tab, nil)
		lacks(t, tab, "", 0)
		lacks(t, tab, "fox", 0)
		if tab.Put("fox", 1) {
			t.Error("something was put into a nil table")
		}
	}
}

// P6.1: what is handed out is not the table's, and two tables know nothing of one another.
func TestTableMemory(t *testing.T) {
	var tab, other sorted.Table[string, int]
	want := map[string]int{}
	for i := range 20 {
		tab.Put(strconv.Itoa(i), i)
		want[strconv.Itoa(i)] = i
		keys, more := tab.Keys(), tab.Keys()
		keys = keys[:cap(keys)]
		for at := range keys {
			keys[at] = "spoilt"
		}
		stands(t, "behind Keys", &tab, want)
		if !slices.Equal(more, tab.Keys()) {
			t.Error("two answers share memory")
		}
	}
	stands(t, "the other", &other, nil)
	keys := tab.Keys()
	was := slices.Clone(keys)
	tab.Cut("0")
	tab.Put("00", 5)
	if !slices.Equal(keys, was) {
		t.Error("an answer was changed by a later call")
	}
}
