package sorted_test

import (
	"math/rand"
	"slices"
	"testing"

	"scholia/sorted"
)

// P6.3
func TestMerge(t *testing.T) {
	for _, c := range []struct {
		lists [][]int
		want  []int
	}{
		{nil, nil},
		{[][]int{}, nil},
		{[][]int{nil}, nil},
		{[][]int{nil, {}, nil}, nil},
		{[][]int{{1, 4}, {2, 4}, {0}}, []int{0, 1, 2, 4, 4}},
		{[][]int{{1, 2, 3}}, []int{1, 2, 3}},
		{[][]int{{7, 8, 9}, nil, {4, 5, 6}, {1, 2, 3}}, []int{1, 2, 3, 4, 5, 6, 7, 8, 9}},
		{[][]int{nil, {1, 1, 1}, {}, {1}}, []int{1, 1, 1, 1}},
	} {
		if got := sorted.Merge(less, c.lists...); !slices.Equal(got, c.want) {
			t.Errorf("%v: %v, not %v", c.lists, got, c.want)
		}
		if got := sorted.Merge(nil, c.lists...); len(got) != 0 {
			t.Errorf("%v without an order: %v", c.lists, got)
		}
	}
	if got := sorted.Merge(less); len(got) != 0 {
		t.Error(got)
	}
}

// P6.3: those that stand alike, of an earlier list first, and of one list as they stood.
func TestMergeAlike(t *testing.T) {
	rnd := rand.New(rand.NewSource(12))
	for n := range 60 {
		var lists [][]card
		var all []card
		for range n % 12 {
			l := inOrder(cards(rnd, rnd.Intn(n)))
			for i := range l {
				l[i].name = len(all) + i
			}
			lists, all = append(lists, l), append(all, l...)
		}
		if got := sorted.Merge(lower, lists...); !slices.Equal(got, inOrder(all)) {
			t.Fatalf("%v: %v", lists, got)
		}
	}
}

// P6.3: one list several times, and very many lists.
func TestMergeMany(t *testing.T) {
	l := []int{1, 2, 3}
	if got := sorted.Merge(less, l, l, l); !slices.Equal(got, []int{1, 1, 1, 2, 2, 2, 3, 3, 3}) {
		t.Error(got)
	}
	lists := make([][]int, 50000)
	for i := range lists {
		if i%2 == 0 {
			lists[i] = []int{len(lists) - i}
		}
	}
	if got := sorted.Merge(less, lists...); len(got) != 25000 || !slices.IsSorted(got) {
		t.Error(len(got))
	}
}

// P6.3: lists are not changed, and what comes is not theirs.
func TestMergeMemory(t *testing.T) {
	room := []int{1, 4, 9, 77, 77, 2, 5, 77}
	was := slices.Clone(room)
	for _, lists := range [][][]int{{room[:3], room[5:7]}, {room[:3], nil}, {room[:3]}, {room[5:7], room[:0]}} {
		kept := slices.Clone(lists)
		got, again := sorted.Merge(less, lists...), sorted.Merge(less, lists...)
		want := slices.Clone(again)
		got = got[:cap(got)]
		for i := range got {
			got[i] = 55
		}
		if !slices.Equal(again, want) {
			t.Error("two answers share memory")
		}
		if !slices.Equal(room, was) {
			t.Fatal("a list, or the room behind it, was changed", room)
		}
		for i := range lists {
			if len(lists[i]) != len(kept[i]) {
				t.Error("the lists were changed")
			}
		}
	}
}
