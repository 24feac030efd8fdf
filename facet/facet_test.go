package facet_test

import (
	"math"
	"math/rand"
	"slices"
	"strconv"
	"testing"

	"scholia/api"
	"scholia/facet"
	"scholia/index"
	"scholia/segment"
)

// parts is two segments: of the documents a to e, and of f, which is there no more.
func parts(t *testing.T) []*segment.Segment {
	t.Helper()
	s := build(t, doc("d", "hen hen", "the red hen"), doc("e"), doc("f", "red fox blue", "blue"))
	s.Kill("f")
	return []*segment.Segment{build(t, doc("a", "red fox", "fox"), doc("b", "red hen"), doc("c", "blue", "", "foxes red")), s}
}

// hits is hits of names and scores by turns.
func hits(l ...any) []api.Hit {
	var out []api.Hit
	for i := 0; i < len(l); i += 2 {
		out = append(out, api.Hit{Id: l[i].(string), Score: l[i+1].(int)})
	}
	return out
}

// P33.1
func TestCounts(t *testing.T) {
	for _, c := range []struct {
		query    string
		field, k int
		want     []api.Hit
	}{
		{"red", 0, 9, hits("red", 4, "hen", 2, "blue", 1, "fox", 1, "foxe", 1)}, {"the", 0, 9, hits("red", 4, "hen", 2, "blue", 1, "fox", 1, "foxe", 1)}, {"red", 1, 9, hits("hen", 2, "red", 2, "blue", 1, "fox", 1)}, {"red", 2, 9, hits("fox", 1, "hen", 1, "red", 1)}, {"red", 3, 9, hits("foxe", 1, "red", 1)}, {"red", 4, 9, nil},
		{"red", 5, 9, nil}, {"red", -1, 9, nil}, {"red", math.MinInt, 9, nil}, {"red", 1 << 32, 9, nil},
		{"hen", 0, 9, hits("hen", 2, "red", 2)}, {"title:red", 0, 9, hits("red", 2, "fox", 1, "hen", 1)}, {"title:red", 2, 9, hits("fox", 1)}, {"-hen", 1, 9, hits("blue", 1, "fox", 1, "red", 1)}, {"-red", 0, 9, nil}, {"x", 0, 9, nil}, {"fo* -blue", 0, 9, hits("fox", 1, "red", 1)}, {`"red fox"`, 1, 9, hits("fox", 1, "red", 1)},
		{"red", 0, 3, hits("red", 4, "hen", 2, "blue", 1)}, {"red", 0, 1, hits("red", 4)}, {"red", 0, 0, nil}, {"red", 0, -1, nil}, {"red", 0, math.MinInt, nil}, {"red", 0, math.MaxInt, hits("red", 4, "hen", 2, "blue", 1, "fox", 1, "foxe", 1)},
	} {
		if got := facet.Counts(parts(t), node(t, c.query), c.field, c.k); !slices.Equal(got, c.want) {
			t.Errorf("%q, field %d, %d: %v, not %v", c.query, c.field, c.k, got, c.want)
		}
	}
	for _, n := range []api.Node{{}, {Kind: 8}, {Kind: api.QTerm}, {Kind: api.QOr}} {
		if got := facet.Counts(parts(t), n, 0, 9); len(got) != 0 {
			t.Errorf("%v: %v", n, got)
		}
	}
}

// P33.1: the chapter's example.
func TestExample(t *testing.T) {
	got := facet.Counts([]*segment.Segment{build(t, doc("a", "red fox"), doc("b", "red hen"))}, node(t, "red"), 0, 20)
	if want := hits("red", 2, "fox", 1, "hen", 1); !slices.Equal(got, want) {
		t.Errorf("%v, not %v", got, want)
	}
}

// P33.1
func TestLike(t *testing.T) {
	for _, c := range []struct {
		id   string
		k    int
		want []api.Hit
	}{
		{"a", 9, hits("b", 1, "c", 1, "d", 1)}, {"b", 9, hits("d", 2, "a", 1, "c", 1)}, {"c", 9, hits("a", 1, "b", 1, "d", 1)}, {"d", 9, hits("b", 2, "a", 1, "c", 1)},
		{"e", 9, nil}, {"f", 9, nil}, {"", 9, nil}, {"x", 9, nil}, {"red", 9, nil},
		{"b", 2, hits("d", 2, "a", 1)}, {"b", 1, hits("d", 2)}, {"b", 0, nil}, {"b", -1, nil}, {"b", math.MinInt, nil}, {"b", math.MaxInt, hits("d", 2, "a", 1, "c", 1)},
	} {
		if got := facet.Like(parts(t), c.id, c.k); !slices.Equal(got, c.want) {
			t.Errorf("%q, %d: %v, not %v", c.id, c.k, got, c.want)
		}
	}
}

// P33.1
func TestTotals(t *testing.T) {
	for _, c := range []struct {
		parts               []*segment.Segment
		docs, words, places int
	}{
		{parts(t), 5, 5, 12},
		{parts(t)[:1], 3, 5, 8},
		{parts(t)[1:], 2, 2, 4},
		{[]*segment.Segment{build(t, doc("a", "the"), doc("b"))}, 2, 0, 0},
		{[]*segment.Segment{build(t, doc("a", "red red", "red", "reds", "running run"))}, 1, 2, 6},
	} {
		if docs, words, places := facet.Totals(c.parts); docs != c.docs || words != c.words || places != c.places {
			t.Errorf("%d %d %d, not %d %d %d", docs, words, places, c.docs, c.words, c.places)
		}
	}
}

// P33.1: at most 20.
func TestMost(t *testing.T) {
	var docs []api.Doc
	text := ""
	for i := range 25 {
		text += "w" + strconv.Itoa(10+i) + " "
		docs = append(docs, doc(strconv.Itoa(10+i), text))
	}
	parts := []*segment.Segment{build(t, docs[:7]...), build(t, docs[7:]...)}
	for _, k := range []int{19, 20, 21, 25, math.MaxInt} {
		if got, want := facet.Counts(parts, api.Node{Kind: api.QAny}, 0, k), counts(t, docs, api.Node{Kind: api.QAny}, 0, k); len(got) != min(k, 20) || !slices.Equal(got, want) {
			t.Errorf("%d: %v, not %v", k, got, want)
		}
		if got, want := facet.Like(parts, "34", k), like(docs, "34", k); len(got) != min(k, 20) || !slices.Equal(got, want) {
			t.Errorf("%d: %v, not %v", k, got, want)
		}
	}
}

// P33.1: as a scan, whatever was flushed.
func TestScan(t *testing.T) {
	rnd := rand.New(rand.NewSource(331))
	for range 150 {
		docs := someDocs(rnd, 24)
		x := index.New()
		for _, i := range rnd.Perm(len(docs)) {
			x.Put(doc(docs[i].Id, "gone fox"))
			if rnd.Intn(4) == 0 {
				x.Flush()
			}
			x.Put(docs[i])
		}
		x.Put(doc("zzz", "gone red"))
		if x.Flush(); !x.Cut("zzz") {
			t.Fatal("cut")
		}
		l := append(x.Parts(), nil)
		for _, query := range []string{"red", "the", "-fox", "fo* | hen", "title:red"} {
			field, k := rnd.Intn(6), rnd.Intn(24)
			if got, want := facet.Counts(l, node(t, query), field, k), counts(t, docs, node(t, query), field, k); !slices.Equal(got, want) {
				t.Fatalf("%q, field %d, %d: %v, not %v", query, field, k, got, want)
			}
		}
		for _, d := range docs {
			k := rnd.Intn(24)
			if got, want := facet.Like(l, d.Id, k), like(docs, d.Id, k); !slices.Equal(got, want) {
				t.Fatalf("%q, %d: %v, not %v", d.Id, k, got, want)
			}
		}
		gotDocs, gotWords, gotPlaces := facet.Totals(l)
		if n, w, p := totals(docs); gotDocs != n || gotWords != w || gotPlaces != p {
			t.Fatalf("%d %d %d, not %d %d %d", gotDocs, gotWords, gotPlaces, n, w, p)
		}
	}
}

// P33.1: of none, and of segments that no call made.
func TestNone(t *testing.T) {
	for _, l := range [][]*segment.Segment{nil, {}, {nil}, {nil, {}, new(segment.Segment)}, {build(t)}} {
		if got := facet.Counts(l, api.Node{Kind: api.QAny}, 0, 9); len(got) != 0 {
			t.Error(got)
		}
		if got := facet.Like(l, "a", 9); len(got) != 0 {
			t.Error(got)
		}
		if docs, words, places := facet.Totals(l); docs != 0 || words != 0 || places != 0 {
			t.Error(docs, words, places)
		}
	}
}

// P33.1: an answer is new memory, and what is handed in stays.
func TestMemory(t *testing.T) {
	l := parts(t)
	was := string(l[0].Bytes()) + string(l[1].Bytes())
	for _, ask := range []func() []api.Hit{
		func() []api.Hit { return facet.Counts(l, node(t, "red"), 0, 9) },
		func() []api.Hit { return facet.Like(l, "b", 9) },
	} {
		first, second := ask(), ask()
		for i := range first[:cap(first)] {
			first[:cap(first)][i] = api.Hit{Id: "spoilt"}
		}
		if !slices.Equal(second, ask()) || slices.Contains(second, api.Hit{Id: "spoilt"}) {
			t.Error("memory is shared")
		}
	}
	if string(l[0].Bytes())+string(l[1].Bytes()) != was {
		t.Error("an argument was changed")
	}
}
