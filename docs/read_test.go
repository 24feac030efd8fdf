package docs_test

import (
	"math"
	"math/rand"
	"slices"
	"strconv"
	"testing"

	"scholia/api"
	"scholia/docs"
)

// strangeState is one by hand that has much that may not be.
func strangeState(rnd *rand.Rand) api.State {
	names := []string{"", "a", "b", "A b", "\xff", "a-very-long-name-indeed"}
	times := []int{math.MinInt, -1, 0, 1, 2, math.MaxInt}
	fields := []int{math.MinInt, -1, 0, 1, 1, 2, 3, 4, 5, 1 << 32, 1<<32 + 1, math.MaxInt}
	var s api.State
	for i := range rnd.Intn(14) {
		w := api.Write{
			Dot:   dot(rnd.Intn(3)-1, rnd.Intn(3)-1),
			Time:  times[rnd.Intn(len(times))],
			Doc:   names[rnd.Intn(len(names))],
			Field: fields[rnd.Intn(len(fields))],
			Text:  string(rune('a' + i)),
		}
		if rnd.Intn(9) == 0 {
			w.Dot = badDots[rnd.Intn(len(badDots))]
		}
		s.Live = append(s.Live, w)
	}
	return s
}

// P12.3: of a document, of a field, or of all, as they stand.
func TestOf(t *testing.T) {
	l := []api.Write{
		{Dot: dot(0, 1), Doc: "b", Field: 1, Text: "1"}, {Dot: dot(0, 2), Doc: "a", Field: 0}, {Dot: dot(0, 3), Doc: "b", Field: 0, Text: "3"},
		{Dot: dot(0, 4), Doc: "b", Field: 1, Text: "4"}, {Dot: dot(0, 4), Doc: "b", Field: 1, Text: "4"}, {Dot: dot(0, 5), Doc: "b", Field: -1}, {Dot: dot(0, 6), Doc: "b", Field: 9},
	}
	s := api.State{Live: l}
	for _, c := range []struct {
		doc   string
		field int
		want  []api.Write
	}{
		{"b", 1, []api.Write{l[0], l[3], l[4]}},
		{"b", 0, []api.Write{l[2]}},
		{"b", 2, nil},
		{"b", 9, []api.Write{l[6]}},
		{"b", -1, []api.Write{l[0], l[2], l[3], l[4], l[5], l[6]}},
		{"b", -2, []api.Write{l[0], l[2], l[3], l[4], l[5], l[6]}},
		{"b", math.MinInt, []api.Write{l[0], l[2], l[3], l[4], l[5], l[6]}},
		{"b", math.MaxInt, nil},
		{"b", 1<<32 + 1, nil},
		{"a", -1, []api.Write{l[1]}},
		{"a", 0, []api.Write{l[1]}},
		{"a", 1, nil},
		{"", -1, nil},
		{"c", -1, nil},
		{"bb", -1, nil},
	} {
		if got := docs.Of(s, c.doc, c.field); !slices.Equal(got, c.want) {
			t.Errorf("of %s, %d: %v, not %v", c.doc, c.field, got, c.want)
		}
		if got := docs.Of(api.State{}, c.doc, c.field); len(got) != 0 {
			t.Errorf("of none: %v", got)
		}
	}
}

// P12.3: dots that rise, each once, also those that may not be.
func TestGone(t *testing.T) {
	of := func(l ...api.Dot) []api.Write {
		var w []api.Write
		for i, d := range l {
			w = append(w, api.Write{Dot: d, Time: 100 - i, Doc: string(rune('z' - i))})
		}
		return w
	}
	for _, c := range []struct {
		l    []api.Write
		want []api.Dot
	}{
		{nil, nil},
		{[]api.Write{}, nil},
		{of(dot(1, 1)), []api.Dot{dot(1, 1)}},
		{of(dot(1, 1), dot(1, 1)), []api.Dot{dot(1, 1)}},
		{of(dot(1, 1), dot(0, 9), dot(1, 1), dot(0, 8), dot(0, 9)), []api.Dot{dot(0, 8), dot(0, 9), dot(1, 1)}},
		{of(dot(63, 1), dot(5, 2), dot(5, 1), dot(0, 3)), []api.Dot{dot(0, 3), dot(5, 1), dot(5, 2), dot(63, 1)}},
		{of(dot(64, 0), dot(-1, 7), dot(math.MaxInt, 1), dot(math.MinInt, 1)), []api.Dot{dot(math.MinInt, 1), dot(-1, 7), dot(64, 0), dot(math.MaxInt, 1)}},
	} {
		room := roomy(c.l)
		was := slices.Clone(room[:cap(room)])
		first, second := docs.Gone(room), docs.Gone(room)
		if !slices.Equal(first, c.want) {
			t.Errorf("%v: %v, not %v", c.l, first, c.want)
		}
		second = second[:cap(second)]
		for i := range second {
			second[i] = dot(9, 9)
		}
		if !slices.Equal(first, c.want) || !slices.Equal(room[:cap(room)], was) {
			t.Error("memory is shared, or was changed")
		}
	}
}

// reads is by the words of the chapter a document as one reads it.
func reads(s api.State, doc string) (api.Doc, bool) {
	d := api.Doc{Id: doc}
	found := false
	for field := range 5 {
		var last *api.Write
		for i := range s.Live {
			w := &s.Live[i]
			if w.Doc != doc {
				continue
			}
			found = true
			if w.Field == field && (last == nil || !laterThan(*last, *w)) {
				last = w
			}
		}
		if field > 0 && last != nil {
			d.Text[field-1] = last.Text
		}
	}
	if !found {
		return api.Doc{}, false
	}
	return d, true
}

// laterThan tells by the words of chapter 9 whether a write stands behind another one.
func laterThan(a, b api.Write) bool {
	if a.Time != b.Time {
		return a.Time > b.Time
	}
	if a.Dot.Rep != b.Dot.Rep {
		return a.Dot.Rep > b.Dot.Rep
	}
	return a.Dot.N > b.Dot.N
}

// P12.3
func TestRead(t *testing.T) {
	w := func(rep, n, time, field int, text string) api.Write {
		return api.Write{Dot: dot(rep, n), Time: time, Doc: "a", Field: field, Text: text}
	}
	for _, c := range []struct {
		l    []api.Write
		want [4]string
	}{
		{[]api.Write{w(0, 1, 1, 0, "")}, [4]string{}},
		{[]api.Write{w(0, 1, 1, 1, "x")}, [4]string{"x"}},
		{[]api.Write{w(0, 1, 1, 1, "p"), w(0, 2, 1, 2, "q"), w(0, 3, 1, 3, "r"), w(0, 4, 1, 4, "s")}, [4]string{"p", "q", "r", "s"}},
		{[]api.Write{w(0, 1, 5, 2, "late"), w(1, 1, 4, 2, "soon")}, [4]string{"", "late"}}, // by time
		{[]api.Write{w(1, 1, 4, 2, "soon"), w(0, 1, 5, 2, "late")}, [4]string{"", "late"}},
		{[]api.Write{w(0, 9, 5, 2, "less"), w(1, 1, 5, 2, "more")}, [4]string{"", "more"}}, // of one time by dot
		{[]api.Write{w(1, 1, 5, 2, "more"), w(0, 9, 5, 2, "less")}, [4]string{"", "more"}},
		{[]api.Write{w(1, 2, 5, 2, "more"), w(1, 1, 5, 2, "less")}, [4]string{"", "more"}},
		{[]api.Write{w(1, 1, 5, 2, "one"), w(1, 1, 5, 2, "two")}, [4]string{"", "two"}}, // that stand alike: the last
		{[]api.Write{w(1, 1, 5, 2, "two"), w(1, 1, 5, 2, "one")}, [4]string{"", "one"}},
		{[]api.Write{w(0, 1, 5, 2, ""), w(1, 1, 4, 2, "soon")}, [4]string{}}, // the latest is empty
		{[]api.Write{w(0, 1, math.MinInt, 2, "old")}, [4]string{"", "old"}},
		{[]api.Write{w(-5, -5, -3, 2, "old")}, [4]string{"", "old"}},
		{[]api.Write{w(0, 1, 1, 5, "x"), w(0, 1, 1, -1, "x"), w(0, 1, 1, 0, "x"), w(0, 1, 1, math.MaxInt, "x"), w(0, 1, 1, 1<<32+1, "x")}, [4]string{}},
	} {
		l := slices.Concat([]api.Write{{Dot: dot(9, 9), Time: 99, Doc: "aa", Field: 2, Text: "other"}}, c.l, []api.Write{{Dot: dot(9, 9), Time: 99, Doc: "", Field: 2, Text: "other"}})
		if got, ok := docs.Read(api.State{Live: l}, "a"); !ok || got != (api.Doc{Id: "a", Text: c.want}) {
			t.Errorf("%v: %v, %v; not %v", c.l, got, ok, c.want)
		}
	}
	for _, doc := range []string{"", "b", "aa", "A"} {
		if got, ok := docs.Read(api.State{Live: []api.Write{w(0, 1, 1, 1, "x")}}, doc); ok || got != (api.Doc{}) {
			t.Errorf("%q: %v, %v", doc, got, ok)
		}
	}
}

// P12.3: what is read of states by hand.
func TestReadByHand(t *testing.T) {
	rnd := rand.New(rand.NewSource(11))
	for i := range 4000 {
		s := strangeState(rnd)
		if i%2 == 0 {
			s = someState(rnd)
		}
		was := cloneState(s)
		names := map[string]bool{}
		for _, w := range s.Live {
			names[w.Doc] = true
		}
		got := docs.Names(s)
		if len(got) != len(names) {
			t.Fatalf("%v: %v", s.Live, got)
		}
		var corpus []api.Doc
		for i, doc := range got {
			if !names[doc] || i > 0 && got[i-1] >= doc {
				t.Fatalf("%v: %v", s.Live, got)
			}
			want, _ := reads(s, doc)
			corpus = append(corpus, want)
		}
		if got := docs.Corpus(s); !slices.Equal(got, corpus) {
			t.Fatalf("%v: %v, not %v", s.Live, got, corpus)
		}
		for _, doc := range []string{"", "a", "b", "A b", "c-1", "\xff", "zz"} {
			got, ok := docs.Read(s, doc)
			if want, there := reads(s, doc); got != want || ok != there {
				t.Fatalf("%v: %q is %v, %v; not %v", s.Live, doc, got, ok, want)
			}
		}
		if !sameState(s, was) {
			t.Fatal("the state was changed")
		}
	}
}

// P12.3: of many that stand alike the last one is read, also where documents stand in one another.
func TestReadAlike(t *testing.T) {
	var s api.State
	for i := range 300 {
		s.Live = append(s.Live, api.Write{Dot: dot(0, 1), Time: 1, Doc: someNames[i*i%7%4], Field: 1 + i%2, Text: strconv.Itoa(i)})
	}
	var want []api.Doc
	for _, doc := range docs.Names(s) {
		d, ok := docs.Read(s, doc)
		if again, _ := reads(s, doc); !ok || d != again {
			t.Errorf("%s: %v, not %v", doc, d, again)
		}
		want = append(want, d)
	}
	if got := docs.Corpus(s); !slices.Equal(got, want) || len(got) < 3 {
		t.Errorf("%v, not %v", got, want)
	}
}

// P12.3: what is told is new memory.
func TestReadMemory(t *testing.T) {
	s := api.State{Live: roomy([]api.Write{write(dot(0, 2), "b", 1), write(dot(0, 1), "a", 1), write(dot(0, 3), "b", 1)})}
	was := slices.Clone(s.Live[:cap(s.Live)])
	names, corpus := docs.Names(s), docs.Corpus(s)
	moreNames, moreCorpus := docs.Names(s), docs.Corpus(s)
	moreNames, moreCorpus = moreNames[:cap(moreNames)], moreCorpus[:cap(moreCorpus)]
	for i := range moreNames {
		moreNames[i] = "spoilt"
	}
	for i := range moreCorpus {
		moreCorpus[i].Id = "spoilt"
	}
	if !slices.Equal(s.Live[:cap(s.Live)], was) {
		t.Error("the state, or the room behind it, was changed")
	}
	spoil(s.Live)
	if !slices.Equal(names, []string{"a", "b"}) || len(corpus) != 2 || corpus[0].Id != "a" || corpus[1].Id != "b" {
		t.Error(names, corpus)
	}
	if len(docs.Names(api.State{})) != 0 || len(docs.Corpus(api.State{})) != 0 {
		t.Error("documents of no state")
	}
}
