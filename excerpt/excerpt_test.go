package excerpt_test

import (
	"math"
	"math/rand"
	"slices"
	"strings"
	"testing"

	"scholia/api"
	"scholia/excerpt"
)

// P31.1
func TestMarks(t *testing.T) {
	const text = "The red fox, a RED Foxes; of red-fox fo red"
	// the 0, red 1, fox 2, a 3, RED 4, Foxes 5, of 6, red 7, fox 8, fo 9, red 10
	for _, c := range []struct {
		query string
		field int
		want  []int
	}{
		{"red", 1, []int{1, 4, 7, 10}}, {"fox", 1, []int{2, 8}}, {"foxes", 1, []int{5}}, {"fo*", 1, []int{2, 5, 8, 9}}, {"fox*", 1, []int{2, 5, 8}}, {"x", 1, nil}, {"the", 1, nil}, {"x*", 1, nil},
		{`"red fox"`, 1, []int{1, 2, 7, 8}}, {`"red foxes"`, 1, []int{4, 5}}, {`"fox fo red"`, 1, []int{8, 9, 10}}, {`"foxes of red"`, 1, []int{5, 7}}, {`"fox red"`, 1, nil}, {`"red fox fo"`, 1, []int{7, 8, 9}}, {`"the red"`, 1, []int{1, 4, 7, 10}},
		{"red fox", 1, []int{1, 2, 4, 7, 8, 10}}, {"fox | fo", 1, []int{2, 8, 9}}, {"fox fox", 1, []int{2, 8}}, {"fo* foxes fox", 1, []int{2, 5, 8, 9}}, {`fo "red fox"`, 1, []int{1, 2, 7, 8, 9}},
		{"red -fox", 1, []int{1, 4, 7, 10}}, {"-red", 1, nil}, {"-(-red)", 1, nil},
		{"title:fox", 1, []int{2, 8}}, {"title:fox", 2, nil}, {"title:fox", 0, nil}, {"body:fox", 2, []int{2, 8}}, {"fox", 0, []int{2, 8}}, {"fox", 7, []int{2, 8}}, {"fox", -1, []int{2, 8}}, {"title:fox body:fo", 2, []int{9}}, {`note:"red fox" | tag:fo*`, 3, []int{2, 5, 8, 9}},
	} {
		if got := excerpt.Marks(text, node(t, c.query), c.field); !slices.Equal(got, c.want) {
			t.Errorf("%q in field %d: %v, not %v", c.query, c.field, got, c.want)
		}
	}
	for _, c := range []struct {
		s    string
		want []int
	}{
		{"", nil}, {"\xff", nil}, {"red\xffred", []int{0, 1}}, {strings.Repeat("the ", 59) + "red red", []int{59}}, {strings.Repeat("the ", 60) + "red", nil}, {strings.Repeat("x", 21) + " red", []int{1}},
	} {
		if got := excerpt.Marks(c.s, node(t, "red"), 1); !slices.Equal(got, c.want) {
			t.Errorf("%q: %v, not %v", c.s, got, c.want)
		}
	}
}

// P31.1: queries made by hand.
func TestMarksByHand(t *testing.T) {
	const text = "red fox red fox hen"
	const top, low = math.MaxInt, math.MinInt
	for _, c := range []struct {
		n    api.Node
		want []int
	}{
		{leaf(api.QTerm, 0), nil}, {leaf(api.QPrefix, 0), nil}, {leaf(api.QPhrase, 0), nil}, {leaf(api.QAny, 0, tok("red", 0)), nil}, {leaf(0, 0, tok("red", 0)), nil}, {leaf(9, 0, tok("red", 0)), nil}, {leaf(api.QAnd, 0, tok("red", 0)), nil},
		{leaf(api.QTerm, 0, tok("red", 7)), []int{0, 2}}, {leaf(api.QTerm, 0, tok("red", 0), tok("fox", 1)), []int{0, 2}}, {leaf(api.QTerm, 0, tok("", 0)), nil}, {leaf(api.QTerm, -1, tok("red", 0)), nil}, {leaf(api.QTerm, 5, tok("red", 0)), nil},
		{leaf(api.QPrefix, 0, tok("", 3)), []int{0, 1, 2, 3, 4}}, {leaf(api.QPrefix, 0, tok("h", 0), tok("red", 1)), []int{4}},
		{leaf(api.QPhrase, 0, tok("fox", 1)), []int{1, 3}}, {leaf(api.QPhrase, 0, tok("fox", 0), tok("red", -1)), []int{0, 1, 2, 3}}, {leaf(api.QPhrase, 0, tok("fox", 0), tok("red", 1)), []int{1, 2}}, {leaf(api.QPhrase, 0, tok("red", 4), tok("hen", 6)), []int{2, 4}}, {leaf(api.QPhrase, 0, tok("red", 0), tok("fox", 0)), nil}, {leaf(api.QPhrase, 0, tok("red", 0), tok("", 1)), nil}, {leaf(api.QPhrase, 0, tok("red", 0), tok("", 9)), nil}, {leaf(api.QPhrase, 0, tok("", 0), tok("red", 1)), nil}, {leaf(api.QPhrase, 0, tok("hen", 0), tok("red", -4), tok("fox", -1)), []int{0, 3, 4}},
		{leaf(api.QPhrase, 0, tok("red", top-1), tok("fox", top)), []int{0, 1, 2, 3}}, {leaf(api.QPhrase, 0, tok("fox", low+1), tok("red", low)), []int{0, 1, 2, 3}}, {leaf(api.QPhrase, 0, tok("fox", top), tok("red", low)), nil}, {leaf(api.QPhrase, 0, tok("red", low), tok("fox", top)), nil}, {leaf(api.QPhrase, 0, tok("fox", low), tok("red", top)), nil}, {leaf(api.QPhrase, 0, tok("red", top), tok("fox", low)), nil}, {leaf(api.QPhrase, 0, tok("red", 0), tok("fox", top)), nil}, {leaf(api.QPhrase, 0, tok("red", 0), tok("fox", low)), nil}, {leaf(api.QPhrase, 0, tok("red", top), tok("fox", 0)), nil}, {leaf(api.QPhrase, 0, tok("red", 1), tok("fox", low)), nil},
	} {
		if got := excerpt.Marks(text, c.n, 1); !slices.Equal(got, c.want) {
			t.Errorf("%v: %v, not %v", c.n, got, c.want)
		}
	}
	if got := excerpt.Marks(text, leaf(api.QTerm, -3, tok("hen", 0)), -3); !slices.Equal(got, []int{4}) {
		t.Error(got)
	}
}

// P31.1
func TestWindow(t *testing.T) {
	const top, low = math.MaxInt, math.MinInt
	for _, c := range []struct {
		marks              []int
		words, width, want int
	}{
		{nil, 0, 0, 0}, {nil, 10, 3, 0}, {[]int{0}, 10, 3, 0}, {[]int{3}, 10, 3, 1}, {[]int{2}, 10, 3, 0}, {[]int{9}, 10, 3, 7}, {[]int{9}, 10, 1, 9}, {[]int{9}, 10, 10, 0}, {[]int{9}, 10, 11, 0}, {[]int{9}, 10, 9, 1},
		{[]int{1, 5, 6}, 10, 2, 5}, {[]int{1, 2, 5, 6}, 10, 2, 1}, {[]int{1, 2, 5, 6, 7}, 10, 3, 5}, {[]int{0, 4, 8}, 10, 5, 0}, {[]int{0, 5, 8}, 10, 5, 4}, {[]int{0, 5, 8}, 10, 4, 5},
		{[]int{8, 1, 7}, 10, 2, 7}, {[]int{3, 1, 1}, 10, 1, 1}, {[]int{1, 3, 3}, 10, 1, 3}, {[]int{1, 1, 3, 3}, 10, 1, 1}, {[]int{1, 4, 5, 1, 1}, 10, 2, 0},
		{[]int{9, 10, 11, 12}, 10, 2, 8}, {[]int{10}, 10, 2, 0}, {[]int{12, 13}, 10, 2, 0}, {[]int{0, 10}, 10, 2, 0}, {[]int{0, 10, 11}, 5, 20, 0},
		{[]int{-1, -1, 3}, 10, 1, 3}, {[]int{-1, -2, low}, 10, 3, 0}, {[]int{-2, -1, 0, 4, 5}, 10, 3, 3},
		{[]int{3}, 10, 0, 0}, {[]int{3}, 10, -1, 0}, {[]int{3}, 10, low, 0}, {[]int{3}, -1, 1, 0}, {[]int{3}, low, low, 0}, {[]int{3}, low, top, 0}, {[]int{9, 9}, low, 2, 0}, {[]int{3}, 0, 1, 0}, {[]int{0, 3, 3}, 3, 2, 0}, {[]int{3, 3}, 3, 1, 0}, {[]int{3, 3}, 4, 1, 3},
		{[]int{7}, top, 3, 5}, {[]int{top}, top, 1, 0}, {[]int{top - 1}, top, 1, top - 1}, {[]int{top - 1}, top, 2, top - 2}, {[]int{top, top - 1}, top, 3, top - 3}, {[]int{5, top - 1}, top, top - 2, 2}, {[]int{1, 2, top - 1}, top, top - 2, 0}, {[]int{0, 2, 3, top - 1, top - 1}, top, top - 2, 2},
		{[]int{low, top - 1}, top, top, 0}, {[]int{low, low, 5}, top, 1 << 62, 0}, {[]int{top}, top, 0, 0}, {[]int{top, low}, low, 0, 0}, {[]int{0, top}, top, top, 0}, {[]int{1 << 40}, 1 << 50, 1 << 30, 1<<40 - 1<<30 + 1},
	} {
		if got := excerpt.Window(c.marks, c.words, c.width); got != c.want {
			t.Errorf("%v, %d words, %d wide: %d, not %d", c.marks, c.words, c.width, got, c.want)
		}
	}
	rnd := rand.New(rand.NewSource(311))
	for range 50000 {
		l := make([]int, rnd.Intn(12))
		for i := range l {
			l[i] = rnd.Intn(24) - 3
		}
		was := slices.Clone(l)
		words, width := rnd.Intn(24)-2, rnd.Intn(12)-1
		if got, want := excerpt.Window(l, words, width), window(l, words, width); got != want {
			t.Fatalf("%v, %d words, %d wide: %d, not %d", l, words, width, got, want)
		}
		if !slices.Equal(l, was) {
			t.Fatal("an argument was changed")
		}
	}
}

// P31.2
func TestExcerpt(t *testing.T) {
	const text = " \xffthe quick, red FOX; ran (far) away\xff "
	for _, c := range []struct {
		query string
		width int
		want  string
	}{
		{"fox", 2, "...red [FOX]..."}, {"fox", 1, "...[FOX]..."}, {"fox", 3, "...quick, red [FOX]..."}, {"fox", 4, "the quick, red [FOX]..."}, {"fox", 7, "the quick, red [FOX]; ran (far) away"}, {"fox", 6, "the quick, red [FOX]; ran (far..."}, {"fox", 20, "the quick, red [FOX]; ran (far) away"}, {"fox", 21, "the quick, red [FOX]; ran (far) away"}, {"fox", math.MaxInt, "the quick, red [FOX]; ran (far) away"},
		{"fox", 0, "...[FOX]..."}, {"fox", -1, "...[FOX]..."}, {"fox", math.MinInt, "...[FOX]..."},
		{"away", 2, "...far) [away]"}, {"away", 1, "...[away]"}, {"quick away", 2, "the [quick]..."}, {"quick far away", 2, "...[far]) [away]"}, {`"red fox"`, 3, "...quick, [red] [FOX]..."}, {"f*", 3, "...[FOX]; ran ([far]..."}, {"f*", 2, "...red [FOX]..."},
		{"hen", 2, "the quick..."}, {"-fox", 3, "the quick, red..."}, {"the", 1, "the..."}, {"body:fox", 1, "the..."}, {"title:fox", 1, "...[FOX]..."},
	} {
		if got := excerpt.Excerpt(text, node(t, c.query), 1, c.width); got != c.want {
			t.Errorf("%q, %d wide: %q, not %q", c.query, c.width, got, c.want)
		}
	}
	for _, s := range []string{"", " ", "\xff", "€ ...", "×"} {
		if got := excerpt.Excerpt(s, node(t, "fox"), 1, 3); got != "" {
			t.Errorf("%q: %q", s, got)
		}
	}
	for s, want := range map[string]string{
		"fox": "[fox]", "(fox)": "[fox]", "fox, hen": "[fox], hen", "hen fox": "hen [fox]", "[fox]": "[fox]", "fox\xfffox": "[fox]\xff[fox]", "École": "École",
		strings.Repeat("hen ", 30) + "fox":             "..." + strings.Repeat("hen ", 4) + "[fox]",
		strings.Repeat("hen ", 58) + "fox fox fox":     "..." + strings.Repeat("hen ", 3) + "[fox] [fox]...", // the last fox stands too far behind to be looked for
		strings.Repeat("hen ", 100) + "fox":            strings.Repeat("hen ", 4) + "hen...",
		strings.Repeat("hen ", 59) + "fox hen hen hen": "..." + strings.Repeat("hen ", 4) + "[fox]...",
	} {
		if got := excerpt.Excerpt(s, node(t, "fox"), 1, 5); got != want {
			t.Errorf("%q: %q, not %q", s, got, want)
		}
	}
}

// P31.2: the chapter's example.
func TestExample(t *testing.T) {
	if got := excerpt.Excerpt("the quick red fox ran", node(t, "fox"), 1, 2); got != "...red [fox]..." {
		t.Error(got)
	}
}

// P31.1, P31.2: whatever the text and the query.
func TestAny(t *testing.T) {
	rnd := rand.New(rand.NewSource(312))
	found := 0
	for range 4000 {
		s, n, field, width := someText(rnd), someNode(rnd, 2), rnd.Intn(6)-1, rnd.Intn(24)-1
		if got, want := excerpt.Marks(s, n, field), marks(s, n, field); !slices.Equal(got, want) {
			t.Fatalf("%v in field %d of %q: %v, not %v", n, field, s, got, want)
		} else if len(got) > 0 {
			found++
		}
		if got, want := excerpt.Excerpt(s, n, field, width), shown(s, n, field, width); got != want {
			t.Fatalf("%v in field %d of %q, %d wide: %q, not %q", n, field, s, width, got, want)
		}
		d := api.Doc{Id: "a"}
		for i := range d.Text {
			if rnd.Intn(3) > 0 {
				d.Text[i] = someText(rnd)
			}
		}
		wantField, want := 0, ""
		for i := 4; i > 0; i-- {
			if len(marks(d.Text[i-1], n, i)) > 0 {
				wantField, want = i, shown(d.Text[i-1], n, i, width)
			}
		}
		if gotField, got := excerpt.Doc(d, n, width); gotField != wantField || got != want {
			t.Fatalf("%v of %q, %d wide: %d %q, not %d %q", n, d.Text, width, gotField, got, wantField, want)
		}
	}
	if found < 400 {
		t.Error(found)
	}
}

// P31.2
func TestDoc(t *testing.T) {
	d := api.Doc{Id: "fox", Text: [4]string{"red hen", "the quick red fox ran", "fox", "blue fox"}}
	for _, c := range []struct {
		query string
		width int
		field int
		want  string
	}{
		{"fox", 2, 2, "...red [fox]..."}, {"red", 1, 1, "[red]..."}, {"red fox", 5, 1, "[red] hen"}, {"blue", 9, 4, "[blue] fox"}, {"tag:fox", 3, 3, "[fox]"}, {"tag:fox | blue", 3, 3, "[fox]"}, {"note:f*", 0, 4, "...[fox]"}, {`"red fox"`, 2, 2, "...[red] [fox]..."},
		{"title:fox", 2, 0, ""}, {"x", 2, 0, ""}, {"-fox", 2, 0, ""}, {"the", 2, 0, ""},
	} {
		if field, got := excerpt.Doc(d, node(t, c.query), c.width); field != c.field || got != c.want {
			t.Errorf("%q: %d %q, not %d %q", c.query, field, got, c.field, c.want)
		}
	}
	for _, n := range []api.Node{{}, {Kind: api.QAny}, {Kind: api.QTerm}, {Kind: 9, Terms: []api.Token{tok("fox", 0)}}} {
		if field, got := excerpt.Doc(d, n, 3); field != 0 || got != "" {
			t.Errorf("%v: %d %q", n, field, got)
		}
	}
	if field, got := excerpt.Doc(api.Doc{}, node(t, "fox"), 3); field != 0 || got != "" {
		t.Error(field, got)
	}
}

// P31.1: an answer is new memory.
func TestMemory(t *testing.T) {
	n := node(t, "red")
	first, second := excerpt.Marks("red red", n, 1), excerpt.Marks("red red", n, 1)
	for i := range first[:cap(first)] {
		first[:cap(first)][i] = 99
	}
	if !slices.Equal(second, []int{0, 1}) || !slices.Equal(excerpt.Marks("red red", n, 1), second) || n.Terms[0] != tok("red", 0) {
		t.Error(second)
	}
}
