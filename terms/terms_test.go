package terms_test

import (
	"fmt"
	"math/rand"
	"slices"
	"sort"
	"strings"
	"testing"

	"scholia/api"
	"scholia/stem"
	"scholia/terms"
	"scholia/token"
)

// P17.1
func TestText(t *testing.T) {
	for _, c := range []struct {
		s    string
		want []api.Token
	}{
		{"", nil},
		{" ,.! ", nil},
		{"€ \U0001f98a \xff", nil},
		{"the", nil},
		{"The AND to of", nil}, // not looked for, with great letters too
		{"red fox", []api.Token{{Term: "red"}, {Term: "fox", At: 1}}},
		{"The foxes, running to a KINDNESS", []api.Token{{Term: "foxe", At: 1}, {Term: "run", At: 2}, {Term: "kind", At: 5}}},
		{"ponies pony PONIES", []api.Token{{Term: "pony"}, {Term: "pony", At: 1}, {Term: "pony", At: 2}}},
		{"as asses ass", []api.Token{{Term: "ass", At: 1}, {Term: "ass", At: 2}}},
		{"anded ising", []api.Token{{Term: "and"}, {Term: "ising", At: 1}}}, // a stem that is as one that is not looked for stays
		{"École жуки r2d2s 7", []api.Token{{Term: "école"}, {Term: "жуки", At: 1}, {Term: "r2d2s", At: 2}, {Term: "7", At: 3}}},
		{"Ёж×\U0001f98aÀ", []api.Token{{Term: "ёж"}, {Term: "à", At: 1}}},
		{"a\xffb\xc3c", []api.Token{{Term: "b", At: 1}, {Term: "c", At: 2}}},
		{strings.Repeat("é", 10) + " " + strings.Repeat("x", 21) + " z", []api.Token{{Term: strings.Repeat("é", 10)}, {Term: "z", At: 2}}},
		// How long a word is is asked of the word, not of its stem.
		{strings.Repeat("x", 17) + "ies " + strings.Repeat("x", 18) + "ies", []api.Token{{Term: strings.Repeat("x", 17) + "y"}}},
		{strings.Repeat("the ", 59) + "foxs hens", []api.Token{{Term: "fox", At: 59}}},
		{strings.Repeat("the ", 60) + "foxs", nil},
	} {
		if got := terms.Text(c.s); !slices.Equal(got, c.want) {
			t.Errorf("%q: %v, not %v", c.s, got, c.want)
		}
	}
}

// P17.1
func TestPrefix(t *testing.T) {
	for _, c := range []struct {
		s, want string
	}{
		{"fox", "fox"}, {"FOX", "fox"}, {"Foxes", "foxes"}, {"RUNNING", "running"}, {"the", "the"}, {"A", "a"}, {"7", "7"}, {"R2D2", "r2d2"}, // neither stemmed, nor left out
		{"É", "é"}, {"Жук", "жук"}, {strings.Repeat("X", 20), strings.Repeat("x", 20)}, {strings.Repeat("É", 10), strings.Repeat("é", 10)},
		{"", ""}, {" ", ""}, {" fox", ""}, {"fox ", ""}, {"fox*", ""}, {"red fox", ""}, {"red-fox", ""}, {"\xff", ""}, {"fox\xff", ""}, {"\xc3fox", ""}, {"fox\xc3", ""}, {"×", ""}, {"fox€", ""}, {"\U0001f98afox", ""}, {"fo\x00x", ""},
		{strings.Repeat("x", 21), ""}, {strings.Repeat("É", 10) + "x", ""}, {strings.Repeat("É", 11), ""}, {strings.Repeat("x", 276), ""}, {strings.Repeat("X", 1<<20), ""}, {strings.Repeat("x", 20) + " ", ""},
	} {
		if got, ok := terms.Prefix(c.s); got != c.want || ok != (c.want != "") {
			t.Errorf("%q: %q %v, not %q", c.s, got, ok, c.want)
		}
	}
}

// P17.2
func TestDoc(t *testing.T) {
	for _, c := range []struct {
		d      api.Doc
		number int
		want   []api.Term
	}{
		{doc(), 0, nil},
		{doc("the", " ", "\xff", "of and"), 3, nil},
		{doc("red fox", "red"), 0, []api.Term{term("fox", post(0, spot(1, 1))), term("red", post(0, spot(1, 0), spot(2, 0)))}},
		{doc("red", "red red", "", "Reds, red"), 7, []api.Term{term("red", post(7, spot(1, 0), spot(2, 0, 1), spot(4, 0, 1)))}},
		{doc("", "", "", "z é b ж a2 7"), -5, []api.Term{
			term("7", post(-5, spot(4, 5))), term("a2", post(-5, spot(4, 4))), term("b", post(-5, spot(4, 2))), term("z", post(-5, spot(4, 0))), term("é", post(-5, spot(4, 1))), term("ж", post(-5, spot(4, 3))),
		}},
		{doc("foxes foxe the fox", "", "the foxes"), 1 << 40, []api.Term{
			term("fox", post(1<<40, spot(1, 3))), term("foxe", post(1<<40, spot(1, 0, 1), spot(3, 1))),
		}},
		{doc("ab abc a2 ab", "abc"), 2, []api.Term{term("a2", post(2, spot(1, 2))), term("ab", post(2, spot(1, 0, 3))), term("abc", post(2, spot(1, 1), spot(2, 0)))}},
		{doc("", strings.Repeat("x", 21)+" y", strings.Repeat("of ", 59)+"y y"), 4, []api.Term{term("y", post(4, spot(2, 1), spot(3, 59)))}},
	} {
		if got := terms.Doc(c.d, c.number); !sameTerms(got, c.want) {
			t.Errorf("%q: %v, not %v", c.d.Text, got, c.want)
		}
	}
	// Its name is none of its terms, and may be any.
	for _, id := range []string{"", "fox", "\xff", strings.Repeat("x", 1000)} {
		d := api.Doc{Id: id, Text: [4]string{"red"}}
		if got := terms.Doc(d, 1); !sameTerms(got, []api.Term{term("red", post(1, spot(1, 0)))}) {
			t.Errorf("%q: %v", id, got)
		}
	}
}

// places is by the words of the chapter where a document's terms stand, each as a line of text.
func places(docs ...api.Doc) []string {
	var l []string
	for number, d := range docs {
		for i, text := range d.Text {
			for _, x := range token.Words(text) {
				if !stem.Stop(x.Term) {
					l = append(l, fmt.Sprintf("%q %d %d %2d", stem.Stem(x.Term), number, i+1, x.At))
				}
			}
		}
	}
	sort.Strings(l)
	return l
}

// listed is what terms say of that.
func listed(l []api.Term) []string {
	var all []string
	for _, x := range l {
		for _, p := range x.List {
			for _, s := range p.Spots {
				for _, at := range s.At {
					all = append(all, fmt.Sprintf("%q %d %d %2d", x.Text, p.Doc, s.Field, at))
				}
			}
		}
	}
	sort.Strings(all)
	return all
}

// inOrder tells whether terms, their postings, spots and places rise, and none is empty.
func inOrder(l []api.Term) bool {
	for i, x := range l {
		if i > 0 && l[i-1].Text >= x.Text || x.Text == "" || len(x.List) == 0 {
			return false
		}
		for k, p := range x.List {
			if k > 0 && x.List[k-1].Doc >= p.Doc || len(p.Spots) == 0 {
				return false
			}
			for n, s := range p.Spots {
				if n > 0 && p.Spots[n-1].Field >= s.Field || len(s.At) == 0 || s.Field < 1 || s.Field > 4 {
					return false
				}
				if !slices.IsSorted(s.At) || len(slices.Compact(slices.Clone(s.At))) != len(s.At) {
					return false
				}
			}
		}
	}
	return true
}

// P17.2, P17.4: whatever the texts, just their places.
func TestEach(t *testing.T) {
	rnd := rand.New(rand.NewSource(5))
	for range 3000 {
		d := someDoc(rnd)
		got := terms.Doc(d, 0)
		if !inOrder(got) {
			t.Fatalf("%q: %v", d.Text, got)
		}
		if want := places(d); !slices.Equal(listed(got), want) {
			t.Fatalf("%q: %v, not %v", d.Text, listed(got), want)
		}
		for i, text := range d.Text {
			count := 0
			for _, x := range got {
				count += terms.Count(x.List[0], i+1)
			}
			if count != len(terms.Text(text)) {
				t.Fatalf("%q: %d", text, count)
			}
		}
	}
}

// P17.2
func TestAll(t *testing.T) {
	if got := terms.All(nil); len(got) != 0 {
		t.Error(got)
	}
	if got := terms.All([]api.Doc{}); len(got) != 0 {
		t.Error(got)
	}
	if got := terms.All(make([]api.Doc, 3)); len(got) != 0 {
		t.Error(got)
	}
	// In the order in which they stand, also where one stands twice, and names do not rise.
	red := api.Doc{Id: "b", Text: [4]string{"red"}}
	got := terms.All([]api.Doc{red, {Id: "c"}, {Id: "a", Text: [4]string{"hen", "red", "", "red"}}, red})
	want := []api.Term{term("hen", post(2, spot(1, 0))), term("red", post(0, spot(1, 0)), post(2, spot(2, 0), spot(4, 0)), post(3, spot(1, 0)))}
	if !sameTerms(got, want) {
		t.Errorf("%v, not %v", got, want)
	}
	rnd := rand.New(rand.NewSource(6))
	for range 300 {
		var docs []api.Doc
		var lists [][]api.Term
		for i := range rnd.Intn(12) {
			docs = append(docs, someDoc(rnd))
			lists = append(lists, terms.Doc(docs[i], i))
		}
		got := terms.All(docs)
		if !inOrder(got) || !slices.Equal(listed(got), places(docs...)) {
			t.Fatalf("%q: %v", docs, got)
		}
		if !sameTerms(got, terms.Merge(lists...)) {
			t.Fatalf("%q: not Merge of each", docs)
		}
	}
}

// P17.3
func TestCount(t *testing.T) {
	p := post(3, spot(1, 0, 4, 5), spot(2, 9), spot(4, 0, 59))
	for field, want := range map[int]int{0: 6, 1: 3, 2: 1, 3: 0, 4: 2, 5: 0, -1: 0, 1 << 32: 0, 1<<32 + 1: 0, -1 << 63: 0, 1<<63 - 1: 0} {
		if got := terms.Count(p, field); got != want {
			t.Errorf("field %d: %d, not %d", field, got, want)
		}
	}
	// By hand: a field twice, places twice, without any, and fields that there are not.
	odd := post(-1, spot(2, 1, 1), spot(9, 5), spot(2, 0), spot(1), spot(-3, 1, 2, 3, 4), spot(0, 8))
	for field, want := range map[int]int{0: 9, 1: 0, 2: 3, 9: 1, -3: 4, 4: 0} {
		if got := terms.Count(odd, field); got != want {
			t.Errorf("field %d: %d, not %d", field, got, want)
		}
	}
	for _, p := range []api.Posting{{}, {Doc: 5, Spots: []api.Spot{}}} {
		if terms.Count(p, 0) != 0 || terms.Count(p, 1) != 0 {
			t.Error("of none")
		}
	}
}

// P17.3
func TestCompare(t *testing.T) {
	numbers := []int{-1 << 63, -1 << 32, -2, -1, 0, 1, 2, 65535, 1 << 31, 1 << 32, 1<<63 - 1}
	for i, a := range numbers {
		for k, b := range numbers {
			want := 0
			if i < k {
				want = -1
			} else if i > k {
				want = 1
			}
			if got := terms.Compare(post(a), post(b)); got != want {
				t.Errorf("%d and %d: %d", a, b, got)
			}
			if got := terms.Compare(post(a, spot(1, 5)), post(b, spot(2, 3), spot(3, 1))); got != want {
				t.Errorf("%d and %d with spots: %d", a, b, got)
			}
		}
	}
}

// P17.3
func TestSame(t *testing.T) {
	base := func() []api.Term {
		return []api.Term{term("fox", post(0, spot(1, 1), spot(2, 0, 3)), post(4, spot(3, 2))), term("red", post(1, spot(4, 0)))}
	}
	if !terms.Same(base(), base()) || !terms.SameList(base()[0].List, base()[0].List) {
		t.Error("not the same as itself")
	}
	for i, change := range []func(l []api.Term) []api.Term{
		func(l []api.Term) []api.Term { return nil },
		func(l []api.Term) []api.Term { return l[:1] },
		func(l []api.Term) []api.Term { return l[1:] },
		func(l []api.Term) []api.Term { return append(l, term("z")) },
		func(l []api.Term) []api.Term { return []api.Term{l[1], l[0]} },
		func(l []api.Term) []api.Term { l[0].Text = "foxe"; return l },
		func(l []api.Term) []api.Term { l[1].Text = ""; return l },
		func(l []api.Term) []api.Term { l[0].List = nil; return l },
		func(l []api.Term) []api.Term { l[0].List = l[0].List[:1]; return l },
		func(l []api.Term) []api.Term { l[0].List = append(l[0].List, post(0)); return l },
		func(l []api.Term) []api.Term {
			l[0].List[0], l[0].List[1] = l[0].List[1], l[0].List[0]
			return l
		},
		func(l []api.Term) []api.Term { l[0].List[0].Doc = 1; return l },
		func(l []api.Term) []api.Term { l[1].List[0].Doc = 1 + 1<<32; return l },
		func(l []api.Term) []api.Term { l[0].List[0].Spots = nil; return l },
		func(l []api.Term) []api.Term { l[0].List[0].Spots = l[0].List[0].Spots[:1]; return l },
		func(l []api.Term) []api.Term {
			l[0].List[1].Spots = append(l[0].List[1].Spots, spot(4))
			return l
		},
		func(l []api.Term) []api.Term { l[0].List[0].Spots[1].Field = 3; return l },
		func(l []api.Term) []api.Term { l[0].List[0].Spots[1].At[1] = 4; return l },
		func(l []api.Term) []api.Term { l[0].List[0].Spots[1].At = []int{0}; return l },
		func(l []api.Term) []api.Term { l[0].List[0].Spots[1].At = []int{0, 3, 4}; return l },
		func(l []api.Term) []api.Term { l[0].List[0].Spots[0].At = nil; return l },
	} {
		other := change(base())
		if terms.Same(base(), other) || terms.Same(other, base()) {
			t.Errorf("change %d is not seen", i)
		}
		if len(other) == 2 && other[0].Text == "fox" && other[1].Text == "red" {
			if terms.SameList(base()[0].List, other[0].List) && terms.SameList(other[1].List, base()[1].List) {
				t.Errorf("change %d is not seen in the lists", i)
			}
		}
	}
	// nil and empty ones mean the same.
	for _, pair := range [][2][]api.Term{
		{nil, {}},
		{{term("a")}, {{Text: "a", List: []api.Posting{}}}},
		{{term("a", post(1))}, {term("a", api.Posting{Doc: 1, Spots: []api.Spot{}})}},
		{{term("a", post(1, spot(2)))}, {term("a", post(1, api.Spot{Field: 2, At: []int{}}))}},
	} {
		if !terms.Same(pair[0], pair[1]) || !terms.Same(pair[1], pair[0]) {
			t.Errorf("%v and %v", pair[0], pair[1])
		}
	}
	if !terms.SameList(nil, []api.Posting{}) || terms.SameList(nil, []api.Posting{{}}) {
		t.Error("of none")
	}
}
