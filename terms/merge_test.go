package terms_test

import (
	"fmt"
	"math/rand"
	"slices"
	"sort"
	"testing"

	"scholia/api"
	"scholia/terms"
)

// P17.2
func TestMerge(t *testing.T) {
	fox := func(n int) api.Posting { return post(n, spot(1, n)) }
	for i, c := range []struct {
		lists [][]api.Term
		want  []api.Term
	}{
		{nil, nil},
		{[][]api.Term{}, nil},
		{[][]api.Term{nil, {}, nil}, nil},
		{[][]api.Term{{term("a", fox(1)), term("b", fox(2))}}, []api.Term{term("a", fox(1)), term("b", fox(2))}},
		{[][]api.Term{{term("b", fox(1))}, {term("a", fox(2)), term("c", fox(3))}}, []api.Term{term("a", fox(2)), term("b", fox(1)), term("c", fox(3))}},
		// An earlier list's postings first, whatever their numbers.
		{[][]api.Term{{term("a", fox(5))}, nil, {term("a", fox(3), fox(4))}, {term("a", fox(9))}, {term("a", fox(1))}}, []api.Term{term("a", fox(5), fox(3), fox(4), fox(9), fox(1))}},
		{[][]api.Term{{term("a", fox(1)), term("b", fox(1))}, {term("b", fox(0)), term("é", fox(0))}, {term("a", fox(7)), term("z", fox(7))}},
			[]api.Term{term("a", fox(1), fox(7)), term("b", fox(1), fox(0)), term("z", fox(7)), term("é", fox(0))}},
		// One posting twice stays twice.
		{[][]api.Term{{term("a", fox(1))}, {term("a", fox(1))}}, []api.Term{term("a", fox(1), fox(1))}},
		// One text twice in one list is one, too.
		{[][]api.Term{{term("a", fox(1)), term("a", fox(2)), term("b", fox(3))}, {term("a", fox(0)), term("b", fox(4)), term("b", fox(5))}}, []api.Term{term("a", fox(1), fox(2), fox(0)), term("b", fox(3), fox(4), fox(5))}},
		// Without postings, without a text, with great letters, with bytes that are no text.
		{[][]api.Term{{term(""), term("a")}, {term("", fox(1)), term("A", fox(3)), term("b")}, {term("a", fox(2)), term("\xff")}}, []api.Term{term("", fox(1)), term("A", fox(3)), term("a", fox(2)), term("b"), term("\xff")}},
		{[][]api.Term{{{}}, {{}}}, []api.Term{{}}},
		// Postings by hand are handed on as they are.
		{[][]api.Term{{term("a", post(-1), post(-1, spot(9), spot(-2, 5, 5, 1)))}}, []api.Term{term("a", post(-1), post(-1, spot(9), spot(-2, 5, 5, 1)))}},
	} {
		kept := slices.Clone(c.lists)
		if got := terms.Merge(c.lists...); !sameTerms(got, c.want) {
			t.Errorf("%d: %v, not %v", i, got, c.want)
		}
		for k, l := range c.lists {
			if len(l) != len(kept[k]) {
				t.Errorf("%d: the lists were changed", i)
			}
		}
	}
	if got := terms.Merge(); len(got) != 0 {
		t.Error(got)
	}
}

// words is some texts in order, each once.
func words(rnd *rand.Rand) []string {
	var l []string
	for range rnd.Intn(9) {
		l = append(l, string(rune('a'+rnd.Intn(12))))
	}
	slices.Sort(l)
	return slices.Compact(l)
}

// P17.2: lists at random, against a map of texts.
func TestMergeMany(t *testing.T) {
	rnd := rand.New(rand.NewSource(7))
	for range 2000 {
		var lists [][]api.Term
		want := map[string][]api.Posting{}
		for i := range rnd.Intn(9) {
			var l []api.Term
			for _, w := range words(rnd) {
				var list []api.Posting
				for range rnd.Intn(4) {
					list = append(list, post(rnd.Intn(9), spot(1+rnd.Intn(4), i)))
				}
				l = append(l, api.Term{Text: w, List: list})
				want[w] = append(want[w], list...)
			}
			lists = append(lists, l)
		}
		got := terms.Merge(lists...)
		if len(got) != len(want) || !sort.SliceIsSorted(got, func(i, k int) bool { return got[i].Text < got[k].Text }) {
			t.Fatalf("%v: %v", lists, got)
		}
		for _, x := range got {
			if !samePostings(x.List, want[x.Text]) {
				t.Fatalf("%q: %v, not %v", x.Text, x.List, want[x.Text])
			}
		}
		// Merged in two goes it is the same.
		cut := rnd.Intn(len(lists) + 1)
		if again := terms.Merge(terms.Merge(lists[:cut]...), terms.Merge(lists[cut:]...)); !sameTerms(again, got) {
			t.Fatalf("%v: %v, in two goes %v", lists, got, again)
		}
	}
}

// P17.2: lists that are not in order come to an end, and what they come to hangs on them alone.
func TestMergeOdd(t *testing.T) {
	rnd := rand.New(rand.NewSource(8))
	for range 500 {
		var lists [][]api.Term
		count := 0
		for range rnd.Intn(5) {
			var l []api.Term
			for range rnd.Intn(9) {
				l = append(l, term(string(rune('a'+rnd.Intn(5))), post(count)))
				count++
			}
			lists = append(lists, l)
		}
		got := terms.Merge(lists...)
		var all []int
		for _, x := range got {
			for _, p := range x.List {
				all = append(all, p.Doc)
			}
		}
		slices.Sort(all)
		if len(slices.Compact(all)) != count || !sameTerms(got, terms.Merge(lists...)) {
			t.Fatalf("%v: %v", lists, got)
		}
	}
	lists := make([][]api.Term, 20000)
	for i := range lists {
		lists[i] = []api.Term{term(fmt.Sprint(i%7), post(i))}
	}
	got := terms.Merge(lists...)
	if len(got) != 7 || len(got[3].List) != 2857 || !slices.IsSortedFunc(got[3].List, terms.Compare) {
		t.Error("of many", len(got))
	}
}

// P17.2: what is handed in stays, the room behind its ends too, and an answer is new memory.
func TestMergeMemory(t *testing.T) {
	a := roomy([]api.Term{term("a", post(1, spot(1, 0, 2), spot(2, 1))), term("b", post(1, spot(1, 1)))})
	b := roomy([]api.Term{term("a", post(2, spot(3, 5))), term("c", post(2, spot(1, 0)))})
	one, two := whole(a), whole(b)
	same := func() bool { return sameTerms(whole(a), one) && sameTerms(whole(b), two) }
	for _, lists := range [][][]api.Term{{a}, {a, b}, {b, a}, {a, a}, {nil, a, nil}, {a[:1], a[1:]}} {
		got, again := terms.Merge(lists...), terms.Merge(lists...)
		want := clone(again)
		if !same() {
			t.Fatal("a list, or the room behind it, was changed")
		}
		spoil(got)
		if !sameTerms(again, want) {
			t.Error("two answers share memory")
		}
		if !same() {
			t.Fatal("an answer shares memory with what was handed in")
		}
	}
	// An answer stays when what was handed in is changed; and of one that has a list twice each is alone.
	got := terms.Merge(a, a, b)
	want := clone(got)
	spoil(a)
	spoil(b)
	if !sameTerms(got, want) {
		t.Error("an answer is changed with what was handed in")
	}
	first := clone(got)[0].List[1]
	spoilPostings(got[0].List[:1:1])
	if !samePostings(got[0].List[1:2], []api.Posting{first}) {
		t.Error("two lists of one answer share memory")
	}
}

// P17.1, P17.2: what other calls answer is new memory, too.
func TestMemory(t *testing.T) {
	const s = "The red foxes, red hens"
	tokens, more := terms.Text(s), terms.Text(s)
	clear(more[:cap(more)])
	if want := []api.Token{{Term: "red", At: 1}, {Term: "foxe", At: 2}, {Term: "red", At: 3}, {Term: "hen", At: 4}}; !slices.Equal(tokens, want) || !slices.Equal(terms.Text(s), want) {
		t.Error(tokens)
	}
	d := doc(s, "red red red", "", "hens")
	one, two := terms.Doc(d, 4), terms.Doc(d, 4)
	want := clone(one)
	spoil(two)
	if !sameTerms(one, want) || !sameTerms(terms.Doc(d, 4), want) {
		t.Error("two answers share memory")
	}
	// No list of an answer reaches into another one: what is put behind one's end changes no other.
	for i := range one {
		for k := range one[i].List {
			for n := range one[i].List[k].Spots {
				_ = append(one[i].List[k].Spots[n].At, 99, 99, 99)
			}
			_ = append(one[i].List[k].Spots, spot(99))
		}
		_ = append(one[i].List, post(99))
	}
	if !sameTerms(one, want) {
		t.Error("the lists of an answer share their room")
	}
	docs := []api.Doc{d, doc("red"), doc("room")}
	was := slices.Clone(docs)
	all := terms.All(docs[:2])
	want = clone(all)
	if !slices.Equal(docs, was) {
		t.Error("the documents were changed")
	}
	spoil(terms.All(docs[:2]))
	clear(docs)
	if !sameTerms(all, want) {
		t.Error("an answer is changed with what was handed in")
	}
}
