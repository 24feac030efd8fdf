package score_test

import (
	"math"
	"math/rand"
	"slices"
	"strconv"
	"strings"
	"testing"

	"scholia/api"
	"scholia/bits"
	"scholia/coder"
	"scholia/dict"
	"scholia/index"
	"scholia/posting"
	"scholia/score"
	"scholia/segment"
)

// P24.1
func TestWeight(t *testing.T) {
	for _, c := range []struct{ n, df, want int }{
		{1, 1, 1}, {2, 1, 2}, {3, 1, 2}, {4, 1, 3}, {4, 2, 2}, {4, 3, 1}, {4, 4, 1}, {7, 1, 3}, {8, 1, 4}, {8, 2, 3}, {8, 3, 2}, {8, 4, 2}, {8, 5, 1}, {255, 1, 8}, {256, 1, 9}, {4096, 1, 13}, {4096, 4096, 1}, {4095, 4, 10},
		{0, 0, 0}, {0, 1, 0}, {1, 0, 0}, {5, 0, 0}, {5, -1, 0}, {5, 6, 0}, {-5, -5, 0}, {-1, 1, 0}, {-5, 0, 0}, {-4, -8, 0},
		{math.MaxInt, 1, 63}, {math.MaxInt, math.MaxInt, 1}, {math.MaxInt, 2, 62}, {math.MaxInt - 1, math.MaxInt, 0}, {math.MinInt, 1, 0}, {math.MinInt, math.MinInt, 0}, {math.MinInt, -1, 0}, {1, math.MinInt, 0}, {1 << 32, 1, 33},
	} {
		if got := score.Weight(c.n, c.df); got != c.want {
			t.Errorf("%d in %d: %d, not %d", c.df, c.n, got, c.want)
		}
	}
}

// P24.1
func TestLess(t *testing.T) {
	l := []api.Hit{{Id: "z", Score: math.MaxInt}, {Id: "", Score: 3}, {Id: "A", Score: 3}, {Id: "a", Score: 3}, {Id: "a\x00", Score: 3}, {Id: "aa", Score: 3}, {Id: "b", Score: 3}, {Id: "\xc3\xa9", Score: 3}, {Id: "\xff", Score: 3}, {Id: "a", Score: 2}, {Id: "a", Score: 0}, {Id: "b", Score: 0}, {Id: "a", Score: -1}, {Id: "a", Score: math.MinInt}}
	for i, a := range l {
		for k, b := range l {
			if got := score.Less(a, b); got != (i < k) {
				t.Errorf("%v and %v: %v", a, b, got)
			}
		}
	}
}

// P24.2
func TestSearch(t *testing.T) {
	// Of eight documents red stands in four, fox in two, hen in one, foxe in one.
	parts := []*segment.Segment{
		build(t, doc("a", "red red red", "red"), doc("d", "fox"), doc("f", "the red fox", "", "red fox"), doc("h")),
		build(t, doc("b", "red", "hen"), doc("c", "red foxes"), doc("e", "blue"), doc("g", "blue blue")),
	}
	for _, c := range []struct {
		text string
		want []api.Hit
	}{
		{"red", []api.Hit{{Id: "a", Score: 8}, {Id: "f", Score: 4}, {Id: "b", Score: 2}, {Id: "c", Score: 2}}},
		{"fox", []api.Hit{{Id: "f", Score: 6}, {Id: "d", Score: 3}}},
		{"fo*", []api.Hit{{Id: "f", Score: 4}, {Id: "c", Score: 2}, {Id: "d", Score: 2}}},
		{`"red fox"`, []api.Hit{{Id: "f", Score: 8}}},
		{"hen", []api.Hit{{Id: "b", Score: 4}}},
		{"red fox", []api.Hit{{Id: "f", Score: 10}}},
		{"red red", []api.Hit{{Id: "a", Score: 16}, {Id: "f", Score: 8}, {Id: "b", Score: 4}, {Id: "c", Score: 4}}},
		{"red | fox", []api.Hit{{Id: "f", Score: 10}, {Id: "a", Score: 8}, {Id: "d", Score: 3}, {Id: "b", Score: 2}, {Id: "c", Score: 2}}},
		{"red | hen", []api.Hit{{Id: "a", Score: 8}, {Id: "b", Score: 6}, {Id: "f", Score: 4}, {Id: "c", Score: 2}}},
		{"red -fox", []api.Hit{{Id: "a", Score: 8}, {Id: "b", Score: 2}, {Id: "c", Score: 2}}}, // what must not be does not count
		{"-red", []api.Hit{{Id: "d"}, {Id: "e"}, {Id: "g"}, {Id: "h"}}},
		{"the -blue", []api.Hit{{Id: "a"}, {Id: "b"}, {Id: "c"}, {Id: "d"}, {Id: "f"}, {Id: "h"}}},
		{"red (fox | the)", []api.Hit{{Id: "f", Score: 10}, {Id: "a", Score: 8}, {Id: "b", Score: 2}, {Id: "c", Score: 2}}},
		{"title:red", []api.Hit{{Id: "a", Score: 6}, {Id: "b", Score: 2}, {Id: "c", Score: 2}, {Id: "f", Score: 2}}},
		{"body:red", []api.Hit{{Id: "a", Score: 4}}},
		{"red -(-fox)", []api.Hit{{Id: "f", Score: 4}}},
		{"x", nil}, {"note:red", nil},
	} {
		if got := score.Search(parts, node(t, c.text), 20); !slices.Equal(got, c.want) {
			t.Errorf("%q: %v, not %v", c.text, got, c.want)
		}
		if got := score.Search(slices.Concat([]*segment.Segment{nil, {}}, parts, []*segment.Segment{nil}), node(t, c.text), 20); !slices.Equal(got, c.want) {
			t.Errorf("%q among none: %v, not %v", c.text, got, c.want)
		}
	}
	for _, s := range parts {
		s.Kill("a")
		s.Kill("b")
		s.Kill("h")
	}
	// What is there no more counts nowhere: of five red stands in two.
	if got, want := score.Search(parts, node(t, "red"), 20), []api.Hit{{Id: "f", Score: 4}, {Id: "c", Score: 2}}; !slices.Equal(got, want) {
		t.Errorf("%v, not %v", got, want)
	}
	if got := score.Search(parts, node(t, "hen"), 20); len(got) != 0 {
		t.Error(got)
	}
}

// P24.2: the chapter's example.
func TestExample(t *testing.T) {
	parts := []*segment.Segment{build(t, doc("a", "fox", "fox"), doc("b"), doc("c", "hen"), doc("d"))}
	if got := score.Search(parts, node(t, "fox"), 5); !slices.Equal(got, []api.Hit{{Id: "a", Score: 6}}) {
		t.Error(got)
	}
}

// P24.2: how many.
func TestHowMany(t *testing.T) {
	var docs []api.Doc
	for i := range 30 {
		docs = append(docs, doc(strconv.Itoa(10+i), strings.Repeat("red ", i%7), "fox"))
	}
	parts := []*segment.Segment{build(t, docs[:11]...), build(t, docs[11:]...)}
	all := scan(t, docs, node(t, "red|fox"), 20)
	if len(all) != 20 {
		t.Fatal(all)
	}
	for k, want := range map[int]int{20: 20, 21: 20, 30: 20, math.MaxInt: 20, 19: 19, 5: 5, 1: 1, 0: 0, -1: 0, math.MinInt: 0, 1 << 32: 20} {
		if got := score.Search(parts, node(t, "red|fox"), k); !slices.Equal(got, all[:want]) {
			t.Errorf("%d: %v, not %v", k, got, all[:want])
		}
	}
	for _, parts := range [][]*segment.Segment{nil, {}, {nil}, {{}}, {build(t)}} {
		if got := score.Search(parts, api.Node{Kind: api.QAny}, 20); len(got) != 0 {
			t.Error(got)
		}
	}
}

// P24.2: above 255 a count is as that.
func TestOften(t *testing.T) {
	var places []int
	for at := range 60 {
		places = append(places, at)
	}
	// At each place of document 0 stand three words, as no text has them.
	var full []api.Spot
	for field := 1; field <= 4; field++ {
		full = append(full, api.Spot{Field: field, At: places})
	}
	words := []string{"x", "xy", "xyz", "z"}
	lists := [][]api.Posting{
		{{Doc: 0, Spots: full}, {Doc: 1, Spots: full}, {Doc: 2, Spots: full[:1]}},
		{{Doc: 0, Spots: full}, {Doc: 1, Spots: []api.Spot{{Field: 1, At: places[:16]}}}},
		{{Doc: 0, Spots: full}},
		{{Doc: 3, Spots: full}},
	}
	d, _ := dict.Build(words)
	set := bits.New(4)
	b := coder.Num(nil, 4)
	for i := range 4 {
		b = coder.Text(b, strconv.Itoa(i))
		set.Put(i)
	}
	b = slices.Concat(b, set.Bytes(), d.Bytes())
	for _, l := range lists {
		x, e := posting.Encode(l)
		if e != api.OK {
			t.Fatal(e)
		}
		b = coder.Text(b, string(x))
	}
	s := segment.Read(coder.Read(b))
	for text, want := range map[string][]api.Hit{
		"x*":      {{Id: "0", Score: 255}, {Id: "1", Score: 255}, {Id: "2", Score: 60}},
		"x* | z":  {{Id: "3", Score: 720}, {Id: "0", Score: 255}, {Id: "1", Score: 255}, {Id: "2", Score: 60}},
		"xy*":     {{Id: "0", Score: 510}, {Id: "1", Score: 32}},
		"x":       {{Id: "0", Score: 240}, {Id: "1", Score: 240}, {Id: "2", Score: 60}},
		"x* x*":   {{Id: "0", Score: 510}, {Id: "1", Score: 510}, {Id: "2", Score: 120}},
		"tag:xy*": {{Id: "0", Score: 360}},
	} {
		if got := score.Search([]*segment.Segment{s}, node(t, text), 9); !slices.Equal(got, want) {
			t.Errorf("%q: %v, not %v", text, got, want)
		}
	}
}

// P24.2: queries made by hand.
func TestByHand(t *testing.T) {
	parts := []*segment.Segment{build(t, doc("a", "red fox"), doc("b", "red"))}
	red, fox := api.Node{Kind: api.QTerm, Terms: []api.Token{{Term: "red"}}}, api.Node{Kind: api.QTerm, Terms: []api.Token{{Term: "fox"}}}
	two := []api.Hit{{Id: "a"}, {Id: "b"}}
	for _, c := range []struct {
		n    api.Node
		want []api.Hit
	}{
		{api.Node{}, nil}, {api.Node{Kind: 9, Kids: []api.Node{red}}, nil}, {api.Node{Kind: api.QTerm}, nil}, {api.Node{Kind: api.QAnd}, two}, {api.Node{Kind: api.QNot}, two}, {api.Node{Kind: api.QOr}, nil},
		{api.Node{Kind: api.QAnd, Terms: red.Terms}, two}, {api.Node{Kind: api.QAny, Kids: []api.Node{red}}, two},
		{api.Node{Kind: api.QTerm, Terms: red.Terms, Kids: []api.Node{fox}}, []api.Hit{{Id: "a", Score: 1}, {Id: "b", Score: 1}}},
		{api.Node{Kind: api.QOr, Kids: []api.Node{red, {Kind: api.QTerm}, {Kind: 12}}}, []api.Hit{{Id: "a", Score: 1}, {Id: "b", Score: 1}}},
		{api.Node{Kind: api.QPhrase, Terms: append(red.Terms, api.Token{Term: "fox", At: 1})}, []api.Hit{{Id: "a", Score: 2}}},
		{api.Node{Kind: api.QNot, Kids: []api.Node{fox, {Kind: api.QTerm}}}, []api.Hit{{Id: "b"}}},
	} {
		if got := score.Search(parts, c.n, 20); !slices.Equal(got, c.want) {
			t.Errorf("%v: %v, not %v", c.n, got, c.want)
		}
	}
}

// P24.2
func TestQuery(t *testing.T) {
	x := index.New()
	put(t, x, doc("a", "red fox"))
	if x.Flush() != api.OK {
		t.Fatal("flush")
	}
	put(t, x, doc("b", "red"))
	for _, c := range []struct {
		text string
		k    int
		want []api.Hit
		e    api.Errno
	}{
		{"red", 5, []api.Hit{{Id: "a", Score: 1}, {Id: "b", Score: 1}}, api.OK}, {"fox", 5, []api.Hit{{Id: "a", Score: 2}}, api.OK}, {"red", 1, []api.Hit{{Id: "a", Score: 1}}, api.OK}, {"red", 0, nil, api.OK}, {"red", -3, nil, api.OK}, {"hen", 5, nil, api.OK}, {"-fox", 5, []api.Hit{{Id: "b"}}, api.OK},
		{"", 5, nil, api.ESYNTAX}, {"red)", 5, nil, api.ESYNTAX}, {"red \xff", 5, nil, api.EUTF}, {"-------red", 5, nil, api.EDEEP}, {strings.Repeat("x", 121), 5, nil, api.ELONG}, {"", 0, nil, api.ESYNTAX}, {"(", -1, nil, api.ESYNTAX},
	} {
		if got, e := score.Query(x, c.text, c.k); !slices.Equal(got, c.want) || e != c.e {
			t.Errorf("%q: %v, error %d, not %v, %d", c.text, got, e, c.want, c.e)
		}
		for _, none := range []*index.Index{nil, {}, index.New()} {
			if got, e := score.Query(none, c.text, c.k); len(got) != 0 || e != c.e {
				t.Errorf("%q of none: %v, error %d", c.text, got, e)
			}
		}
	}
	if x.Len() != 2 || x.Segments() != 1 || x.Fresh() != 1 {
		t.Error("the index has changed")
	}
}

// P24.3, P24.2: whatever was put, cut, flushed and compacted.
func TestScan(t *testing.T) {
	rnd := rand.New(rand.NewSource(241))
	texts := []string{"red", "fox", "fo*", `"red fox"`, "red fox", "red | fox", "-red", "red -fox", "title:red body:fox", "hen | (red -fo*)", "the", "é", "red red hen", "tag:(red | foxes)", `"red red" | note:hen`, "x", "f* -(-h*)"}
	for range 60 {
		docs := someDocs(rnd, 40)
		one, other := filled(t, rnd, docs), filled(t, rnd, docs)
		if other.Flush() != api.OK || other.Compact() != api.OK {
			t.Fatal("the index")
		}
		for _, text := range texts {
			k := rnd.Intn(25)
			want := scan(t, docs, node(t, text), k)
			for _, x := range []*index.Index{one, other} {
				if got, e := score.Query(x, text, k); !slices.Equal(got, want) || e != api.OK {
					t.Fatalf("%q of %q: %v, error %d, not %v", text, docs, got, e, want)
				}
			}
			if got := score.Search(append(one.Parts(), nil), node(t, text), k); !slices.Equal(got, want) {
				t.Fatalf("%q of %q: %v, not %v", text, docs, got, want)
			}
		}
	}
}

// P24.2: an answer is new memory, and what is handed in stays.
func TestMemory(t *testing.T) {
	parts := []*segment.Segment{build(t, doc("a", "red fox"), doc("b", "red"))}
	was := string(parts[0].Bytes())
	n := node(t, "red")
	first := score.Search(parts, n, 9)
	want := slices.Clone(first)
	second := score.Search(parts, n, 9)
	for i := range first[:cap(first)] {
		first[:cap(first)][i] = api.Hit{Id: "spoilt"}
	}
	if !slices.Equal(second, want) || !slices.Equal(score.Search(parts, n, 9), want) || string(parts[0].Bytes()) != was || n.Terms[0].Term != "red" {
		t.Error("memory is shared")
	}
}
