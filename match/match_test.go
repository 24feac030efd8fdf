package match_test

import (
	"math"
	"math/rand"
	"slices"
	"strings"
	"testing"

	"scholia/api"
	"scholia/match"
	"scholia/segment"
)

// P23.1
func TestCounts(t *testing.T) {
	s := build(t,
		doc("a", "the red fox, a red fox"),
		doc("b", "red", "fox red red", "", "Foxes"),
		doc("c", "the hen"),
		doc("d", "fox fox fox", "foxy fox of red", "red of fox", "fox red"),
		doc("e"),
		doc("f", strings.Repeat("the ", 59)+"red", "red fox "+strings.Repeat("the ", 57)+"fox"),
	)
	const term, prefix, phrase = api.QTerm, api.QPrefix, api.QPhrase
	for _, c := range []struct {
		n    api.Node
		want []int
	}{
		{leaf(term, 0, "red"), []int{2, 3, 0, 3, 0, 2}}, {leaf(term, 1, "red"), []int{2, 1, 0, 0, 0, 1}}, {leaf(term, 2, "red"), []int{0, 2, 0, 1, 0, 1}}, {leaf(term, 3, "red"), []int{0, 0, 0, 1, 0, 0}}, {leaf(term, 4, "red"), []int{0, 0, 0, 1, 0, 0}},
		{leaf(term, 5, "red"), make([]int, 6)}, {leaf(term, -1, "red"), make([]int, 6)}, {leaf(term, math.MinInt, "red"), make([]int, 6)}, {leaf(term, 1<<32, "red"), make([]int, 6)}, {leaf(term, 1<<32+1, "red"), make([]int, 6)},
		{leaf(term, 0, "fo"), make([]int, 6)}, {leaf(term, 0, ""), make([]int, 6)}, {leaf(term, 0, "the"), make([]int, 6)}, {leaf(term, 0, "Red"), make([]int, 6)}, {leaf(term, 0, "foxe"), []int{0, 1, 0, 0, 0, 0}},
		{leaf(term, 0, "red", "fox"), []int{2, 3, 0, 3, 0, 2}}, {leaf(term, 0, "x", "red"), make([]int, 6)}, {away(leaf(term, 0, "red"), 7), []int{2, 3, 0, 3, 0, 2}},

		{leaf(prefix, 0, "fo"), []int{2, 2, 0, 7, 0, 2}}, {leaf(prefix, 0, "fox"), []int{2, 2, 0, 7, 0, 2}}, {leaf(prefix, 0, "foxe"), []int{0, 1, 0, 0, 0, 0}}, {leaf(prefix, 2, "fox"), []int{0, 1, 0, 2, 0, 2}}, {leaf(prefix, 4, "f"), []int{0, 1, 0, 1, 0, 0}}, {leaf(prefix, 7, "f"), make([]int, 6)},
		{leaf(prefix, 0, ""), []int{4, 5, 1, 10, 0, 4}}, {leaf(prefix, 1, ""), []int{4, 1, 1, 3, 0, 1}}, {leaf(prefix, 0, "foxess"), make([]int, 6)}, {leaf(prefix, 0, "h", "red"), []int{0, 0, 1, 0, 0, 0}},

		{leaf(phrase, 0, "red", "fox"), []int{2, 0, 0, 0, 0, 1}}, {leaf(phrase, 1, "red", "fox"), []int{2, 0, 0, 0, 0, 0}}, {leaf(phrase, 2, "red", "fox"), []int{0, 0, 0, 0, 0, 1}}, {leaf(phrase, 0, "fox", "red"), []int{0, 1, 0, 1, 0, 0}}, {leaf(phrase, 4, "fox", "red"), []int{0, 0, 0, 1, 0, 0}},
		{leaf(phrase, 0, "fox", "fox"), []int{0, 0, 0, 2, 0, 0}}, {leaf(phrase, 0, "fox", "fox", "fox"), []int{0, 0, 0, 1, 0, 0}}, {leaf(phrase, 0, "fox", "fox", "fox", "fox"), make([]int, 6)},
		{away(leaf(phrase, 0, "red", "fox"), 0, 2), []int{0, 0, 0, 1, 0, 0}}, {away(leaf(phrase, 0, "fox", "red"), 0, 2), []int{1, 1, 0, 1, 0, 0}}, {away(leaf(phrase, 0, "red", "fox"), 5, 6), []int{2, 0, 0, 0, 0, 1}}, {away(leaf(phrase, 0, "red", "fox"), 0, 59), []int{0, 0, 0, 0, 0, 1}}, {away(leaf(phrase, 0, "red", "fox"), 0, 60), make([]int, 6)}, {away(leaf(phrase, 0, "red", "fox"), 0, -59), make([]int, 6)}, {away(leaf(phrase, 0, "red", "red"), 0, 1), []int{0, 1, 0, 0, 0, 0}},
		{away(leaf(phrase, 0, "fox", "red"), 1, 0), []int{2, 0, 0, 0, 0, 1}}, {away(leaf(phrase, 0, "fox", "red"), 0, -1), []int{2, 0, 0, 0, 0, 1}}, {away(leaf(phrase, 0, "red", "fox", "red"), 0, 1, 3), []int{1, 0, 0, 0, 0, 0}}, {away(leaf(phrase, 0, "red", "fox", "red"), 0, 1, -3), []int{1, 0, 0, 0, 0, 0}},
		{away(leaf(phrase, 0, "red", "red"), 3, 3), []int{2, 3, 0, 3, 0, 2}}, {away(leaf(phrase, 0, "red", "fox"), 0, 0), make([]int, 6)}, {leaf(phrase, 0, "red"), []int{2, 3, 0, 3, 0, 2}}, {away(leaf(phrase, 2, "red"), 40), []int{0, 2, 0, 1, 0, 1}},
		{leaf(phrase, 0, "red", ""), make([]int, 6)}, {leaf(phrase, 0, "", "red"), make([]int, 6)}, {leaf(phrase, 0, "red", "x", "fox"), make([]int, 6)}, {away(leaf(phrase, 2, "red", "fox", "fox"), 0, 1, 59), []int{0, 0, 0, 0, 0, 1}},

		// Of other kinds, and without terms.
		{leaf(term, 0), make([]int, 6)}, {leaf(prefix, 0), make([]int, 6)}, {leaf(phrase, 0), make([]int, 6)}, {leaf(api.QAny, 0, "red"), make([]int, 6)}, {leaf(api.QAnd, 0, "red"), make([]int, 6)}, {leaf(api.QOr, 0, "red"), make([]int, 6)}, {leaf(api.QNot, 0, "red"), make([]int, 6)}, {leaf(0, 0, "red"), make([]int, 6)}, {leaf(-1, 0, "red"), make([]int, 6)}, {leaf(8, 0, "red"), make([]int, 6)}, {leaf(1<<32+term, 0, "red"), make([]int, 6)},
		{over(api.QOr, leaf(term, 0, "red")), make([]int, 6)},
	} {
		if got := match.Counts(s, c.n); !slices.Equal(got, c.want) {
			t.Errorf("%v: %v, not %v", c.n, got, c.want)
		}
	}
}

// P23.1: the chapter's example.
func TestExample(t *testing.T) {
	s := build(t, doc("a", "the red fox, a red fox"))
	if got := match.Counts(s, leaf(api.QPhrase, 0, "red", "fox")); !slices.Equal(got, []int{2}) {
		t.Error(got)
	}
}

// P23.1: places of a phrase that are so far apart that no number tells it.
func TestFarPlaces(t *testing.T) {
	s := build(t, doc("a", "red fox red fox"))
	const top, low = math.MaxInt, math.MinInt
	for _, c := range []struct {
		first, second, want int
	}{
		{top - 1, top, 2}, {low, low + 1, 2}, {-1, 0, 2}, {top - 3, top, 1}, {top, top - 1, 1}, {top, top, 0}, {low, low, 0}, {0, low, 0}, {0, top, 0}, {top, 0, 0}, {low, 0, 0},
		{top, low, 0}, {top, low + 1, 0}, {top - 1, low + 1, 0}, {low, top, 0}, {low, top - 1, 0}, {low + 1, top, 0}, {low + 2, top, 0}, {top, low + 2, 0}, {1, low + 1, 0}, {-1, top, 0}, {-2, top, 0},
	} {
		if got := match.Counts(s, away(leaf(api.QPhrase, 0, "red", "fox"), c.first, c.second)); !slices.Equal(got, []int{c.want}) {
			t.Errorf("%d and %d: %v, not %d", c.first, c.second, got, c.want)
		}
	}
}

// P23.2
func TestMatch(t *testing.T) {
	s := build(t, doc("a", "red fox"), doc("b", "red", "fox"), doc("c", "hen"), doc("d"), doc("e", "fox red"))
	red, fox, hen, x := leaf(api.QTerm, 0, "red"), leaf(api.QTerm, 0, "fox"), leaf(api.QTerm, 0, "hen"), leaf(api.QTerm, 0, "x")
	all := []int{0, 1, 2, 3, 4}
	for _, c := range []struct {
		n    api.Node
		want []int
	}{
		{red, []int{0, 1, 4}}, {leaf(api.QTerm, 2, "fox"), []int{1}}, {leaf(api.QPrefix, 0, "fo"), []int{0, 1, 4}}, {leaf(api.QPrefix, 0, ""), []int{0, 1, 2, 4}}, {leaf(api.QPrefix, 1, "h"), []int{2}}, {leaf(api.QPhrase, 0, "red", "fox"), []int{0}}, {x, nil}, {leaf(api.QTerm, 0), nil}, {leaf(api.QPrefix, 0), nil}, {leaf(api.QPhrase, 0), nil},
		{over(api.QAny), all}, {over(api.QAny, red), all}, {leaf(api.QAny, 3, "red"), all},
		{over(api.QAnd, red, fox), []int{0, 1, 4}}, {over(api.QAnd, red, hen), nil}, {over(api.QAnd, red), []int{0, 1, 4}}, {over(api.QAnd), all}, {over(api.QAnd, over(api.QAny), hen), []int{2}}, {leaf(api.QAnd, 0, "red"), all}, {over(api.QAnd, red, fox, leaf(api.QTerm, 2, "fox")), []int{1}},
		{over(api.QOr, red, hen), []int{0, 1, 2, 4}}, {over(api.QOr, x, hen), []int{2}}, {over(api.QOr), nil}, {leaf(api.QOr, 0, "red"), nil}, {over(api.QOr, x), nil},
		{over(api.QNot, red), []int{2, 3}}, {over(api.QNot, red, hen), []int{3}}, {over(api.QNot), all}, {over(api.QNot, x), all}, {over(api.QNot, over(api.QAny)), nil}, {over(api.QNot, over(api.QNot, red)), []int{0, 1, 4}}, {leaf(api.QNot, 0, "red"), all},
		{over(api.QAnd, over(api.QNot, hen), over(api.QOr, hen, over(api.QNot, red))), []int{3}},
		{over(0, red), nil}, {over(-1, red), nil}, {over(8, red), nil}, {leaf(8, 0, "red"), nil}, {leaf(0, 0, "red"), nil}, {over(api.QNot, over(8)), all}, {over(api.QTerm, red), nil},
	} {
		got := match.Match(s, c.n)
		if !slices.Equal(got.List(), c.want) || got.Size() != 5 {
			t.Errorf("%v: %v of %d, not %v", c.n, got.List(), got.Size(), c.want)
		}
	}
}

// P23.1, P23.2: what is there no more is neither counted nor matched.
func TestKilled(t *testing.T) {
	s := build(t, doc("a", "red fox"), doc("b", "red fox"), doc("c", "hen"), doc("d", "foxy"))
	for _, id := range []string{"b", "d"} {
		s.Kill(id)
	}
	red := leaf(api.QTerm, 0, "red")
	for _, c := range []struct {
		n      api.Node
		counts []int
		match  []int
	}{
		{red, []int{1, 0, 0, 0}, []int{0}}, {leaf(api.QPrefix, 0, "fo"), []int{1, 0, 0, 0}, []int{0}}, {leaf(api.QPrefix, 0, "foxy"), []int{0, 0, 0, 0}, nil}, {leaf(api.QPhrase, 0, "red", "fox"), []int{1, 0, 0, 0}, []int{0}},
		{over(api.QAny), []int{0, 0, 0, 0}, []int{0, 2}}, {over(api.QNot, red), []int{0, 0, 0, 0}, []int{2}}, {over(api.QAnd), []int{0, 0, 0, 0}, []int{0, 2}}, {over(api.QNot), []int{0, 0, 0, 0}, []int{0, 2}}, {over(api.QOr, red, over(api.QAny)), []int{0, 0, 0, 0}, []int{0, 2}},
	} {
		if got := match.Counts(s, c.n); !slices.Equal(got, c.counts) {
			t.Errorf("%v: %v, not %v", c.n, got, c.counts)
		}
		if got := match.Match(s, c.n); !slices.Equal(got.List(), c.match) || got.Size() != 4 {
			t.Errorf("%v: %v, not %v", c.n, got.List(), c.match)
		}
	}
}

// P23.1, P23.2, P23.3: as a scan, and in one segment as in several.
func TestScan(t *testing.T) {
	rnd := rand.New(rand.NewSource(231))
	for range 400 {
		docs := someDocs(rnd, 30)
		lots := make([][]api.Doc, 3)
		there := map[string]api.Doc{}
		for _, d := range docs {
			i := rnd.Intn(len(lots))
			lots[i] = append(lots[i], d)
			there[d.Id] = d
		}
		parts := []*segment.Segment{build(t, lots[0]...), build(t, lots[1]...), build(t, lots[2]...)}
		for _, d := range docs {
			if rnd.Intn(4) == 0 {
				for _, s := range parts {
					s.Kill(d.Id)
				}
				delete(there, d.Id)
			}
		}
		one, e := segment.Merge(parts...)
		if e != api.OK {
			t.Fatal(e)
		}
		for range 20 {
			n := someNode(rnd, 3)
			for _, s := range append(parts, one) {
				asScan(t, s, n, there)
			}
		}
	}
}

// asScan tells whether counts and matches of a segment are as a scan of those documents that are there.
func asScan(t *testing.T, s *segment.Segment, n api.Node, there map[string]api.Doc) {
	t.Helper()
	counts, set := match.Counts(s, n), match.Match(s, n)
	if len(counts) != s.Size() || set.Size() != s.Size() {
		t.Fatal(len(counts), set.Size(), s.Size())
	}
	for i, count := range counts {
		id, _ := s.Id(i)
		d, is := there[id]
		want := 0
		if is {
			want = times(d, n)
		}
		if count != want || set.Has(i) != (is && asks(d, n)) {
			t.Fatalf("%v of %q, there: %v: %d, not %d, matched: %v", n, d, is, count, want, set.Has(i))
		}
	}
}

// P23.1, P23.2: of segments that no call made, and empty ones.
func TestNone(t *testing.T) {
	for _, s := range []*segment.Segment{nil, {}, new(segment.Segment), build(t)} {
		for _, n := range []api.Node{
			{}, over(api.QAny), leaf(api.QTerm, 0, "red"), leaf(api.QPrefix, 0, ""), leaf(api.QPhrase, 1, "red", "fox"), over(api.QAnd), over(api.QAnd, over(api.QAny)), over(api.QOr), over(api.QOr, over(api.QAny)), over(api.QNot), over(api.QNot, over(api.QNot)), over(9),
		} {
			if counts, set := match.Counts(s, n), match.Match(s, n); len(counts) != 0 || set.Size() != 0 || set.Count() != 0 {
				t.Errorf("%v: %v %v", n, counts, set.List())
			}
		}
	}
}

// P23.2: deep ones, and wide ones.
func TestDeep(t *testing.T) {
	s := build(t, doc("a", "red"), doc("b"))
	red := leaf(api.QTerm, 0, "red")
	n := red
	for range 1 << 15 {
		n = over(api.QNot, n)
	}
	if got := match.Match(s, n).List(); !slices.Equal(got, []int{0}) {
		t.Error(got)
	}
	if got := match.Match(s, over(api.QAnd, slices.Repeat([]api.Node{red}, 10000)...)).List(); !slices.Equal(got, []int{0}) {
		t.Error(got)
	}
	long := away(leaf(api.QPhrase, 0, slices.Repeat([]string{"red"}, 10000)...), make([]int, 10000)...)
	if got := match.Counts(s, long); !slices.Equal(got, []int{1, 0}) {
		t.Error(got)
	}
}

// P23.1, P23.2: an answer is new memory, and what is handed in stays.
func TestMemory(t *testing.T) {
	s := build(t, doc("a", "red fox"), doc("b", "red"), doc("c"))
	was := string(s.Bytes())
	for _, n := range []api.Node{over(api.QAny), over(api.QAnd), leaf(api.QPhrase, 0, "red", "fox"), over(api.QOr, over(api.QAny), leaf(api.QTerm, 0, "red"))} {
		want := match.Match(s, n).List()
		counts := match.Counts(s, n)
		set := match.Match(s, n)
		for i := range 3 {
			set.Cut(i)
		}
		for i := range counts[:cap(counts)] {
			counts[:cap(counts)][i] = 99
		}
		if got := match.Match(s, n).List(); !slices.Equal(got, want) || string(s.Bytes()) != was || match.Counts(s, n)[0] > 1 {
			t.Errorf("%v: %v, not %v", n, got, want)
		}
	}
}
