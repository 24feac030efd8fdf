package segment_test

import (
	"math"
	"math/rand"
	"slices"
	"strconv"
	"strings"
	"testing"

	"scholia/api"
	"scholia/segment"
	"scholia/terms"
)

// numbered is so many documents without texts, by rising names.
func numbered(many int) []api.Doc {
	l := make([]api.Doc, many)
	for i := range l {
		l[i].Id = strconv.Itoa(100000 + i)
	}
	return l
}

// P20.1
func TestBuildErrors(t *testing.T) {
	for _, ids := range [][]string{
		{""}, {"", "a"}, {"a", ""}, {"a", "a"}, {"b", "a"}, {"a", "c", "b"}, {"1234567890123"}, {"a", "bbbbbbbbbbbbb"}, {"é", "z"}, {strings.Repeat("a", 1<<16)},
	} {
		var l []api.Doc
		for _, id := range ids {
			l = append(l, doc(id, "red fox"))
		}
		if s, e := segment.Build(l); s != nil || e != api.EARG {
			t.Errorf("%q: error %d", ids, e)
		}
	}
	if s, e := segment.Build(numbered(4097)); s != nil || e != api.EARG {
		t.Errorf("4097: error %d", e)
	}
	if s, e := segment.Build(make([]api.Doc, 1<<20)); s != nil || e != api.EARG {
		t.Errorf("error %d", e)
	}
}

// P20.1: what may be just so.
func TestBuildEdges(t *testing.T) {
	same(t, build(t, nil), nil, nil)
	same(t, build(t, []api.Doc{}), nil, nil)
	same(t, build(t, []api.Doc{doc("a")}), []api.Doc{doc("a")}, nil)
	odd := []api.Doc{doc("\x00"), doc("A b\n", "red"), doc("\xff\xfe", "\xff"), doc("\xff\xff\xff\xff\xff\xff\xff\xff\xff\xff\xff\xff", "fox", "", "", "fox")}
	same(t, build(t, odd), odd, nil)
	s := build(t, numbered(4096))
	if s.Size() != 4096 || s.Live() != 4096 {
		t.Error(s.Size(), s.Live())
	}
	if i, ok := s.Find("104095"); i != 4095 || !ok {
		t.Error(i, ok)
	}
	long := doc("a", strings.Repeat("fox ", 59)+"red hen", strings.Repeat("x", 200000))
	same(t, build(t, []api.Doc{long}), []api.Doc{long}, nil)
}

// P20.1: no dictionary has so many words.
func TestTooManyTerms(t *testing.T) {
	var l []api.Doc
	word := 0
	for i := range 16384/60 + 1 {
		var b strings.Builder
		for range 60 {
			b.WriteString(strconv.Itoa(1000000+word) + " ")
			word++
		}
		l = append(l, doc(strconv.Itoa(1000+i), b.String()))
	}
	if s, e := segment.Build(l); s != nil || e != api.EARG {
		t.Errorf("%d words: error %d", word, e)
	}
	last := &l[len(l)-1]
	last.Text[0] = strings.Join(strings.Fields(last.Text[0])[:16384%60], " ")
	s := build(t, l)
	if n := len(s.Prefix("")); n != 16384 {
		t.Error(n)
	}
	one, two := build(t, l[:len(l)-1]), build(t, []api.Doc{l[len(l)-1], doc("2000", "one too many")})
	if s, e := segment.Merge(one, two); s != nil || e != api.EARG {
		t.Errorf("error %d", e)
	}
	if !two.Kill("2000") {
		t.Error("2000")
	}
	if again, e := segment.Merge(one, two); e != api.OK || string(again.Bytes()) != string(s.Bytes()) {
		t.Errorf("error %d", e)
	}
}

// P20.1
func TestId(t *testing.T) {
	s := build(t, []api.Doc{doc("a"), doc("b")})
	s.Kill("b")
	for i, id := range []string{"a", "b"} {
		if got, ok := s.Id(i); got != id || !ok {
			t.Error(i, got, ok)
		}
	}
	for _, i := range []int{-1, 2, 1 << 32, math.MinInt, math.MaxInt} {
		if got, ok := s.Id(i); got != "" || ok {
			t.Error(i, got, ok)
		}
		if l := s.At("fox", i); l != nil {
			t.Error(i, l)
		}
	}
}

// P20.1, P20.2
func TestExample(t *testing.T) {
	s := build(t, []api.Doc{doc("a", "red fox"), doc("b", "red")})
	at := func(i int, places ...int) api.Posting {
		return api.Posting{Doc: i, Spots: []api.Spot{{Field: 1, At: places}}}
	}
	want := []api.Term{{Text: "fox", List: []api.Posting{at(0, 1)}}, {Text: "red", List: []api.Posting{at(0, 0), at(1, 0)}}}
	if got := s.Terms(); !terms.Same(got, want) {
		t.Error(got)
	}
	if got := s.Text(); got != "a\nb\nfox a\nred a b\n" {
		t.Errorf("%q", got)
	}
	if !s.Kill("a") || s.Kill("a") || s.Kill("c") || s.Kill("") || s.Live() != 1 || s.Size() != 2 {
		t.Error(s.Live(), s.Size())
	}
	if got := s.Text(); got != "b\nred b\n" {
		t.Errorf("%q", got)
	}
	if l := s.Prefix(""); !slices.Equal(l, []string{"fox", "red"}) {
		t.Error(l)
	}
	if l := s.List("fox"); len(l) != 0 {
		t.Error(l)
	}
	if l := s.At("red", 0); len(l) != 0 {
		t.Error(l)
	}
}

// P20.1, P20.2, P20.4: whatever is killed, in any order, by a scan of the documents.
func TestKill(t *testing.T) {
	rnd := rand.New(rand.NewSource(201))
	for round := range 150 {
		docs := someDocs(rnd, 1+round%12)
		was := slices.Clone(docs)
		s := build(t, docs)
		if !slices.Equal(docs, was) {
			t.Fatal(docs)
		}
		gone := map[string]bool{}
		for range 6 {
			same(t, s, docs, gone)
			id := someName(rnd)
			there := !gone[id] && slices.ContainsFunc(docs, func(d api.Doc) bool { return d.Id == id })
			if got := s.Kill(id); got != there {
				t.Fatalf("%q: %v", id, got)
			}
			gone[id] = true
		}
		for _, d := range docs {
			s.Kill(d.Id)
			gone[d.Id] = true
		}
		same(t, s, docs, gone)
	}
}

// P20.1: segments that no call made.
func TestNone(t *testing.T) {
	for _, s := range []*segment.Segment{nil, new(segment.Segment), {}} {
		id, ok := s.Id(0)
		n, there := s.Find("a")
		if s.Size() != 0 || s.Live() != 0 || id != "" || ok || n != 0 || there || s.Kill("a") || s.Kill("") || s.Set() != nil {
			t.Error(s.Size(), s.Live(), id, ok, n, there, s.Set())
		}
		if s.List("a") != nil || s.List("") != nil || s.At("a", 0) != nil || len(s.Prefix("")) != 0 || s.Terms() != nil || s.Bytes() != nil || s.Text() != "" {
			t.Error(s.List("a"), s.At("a", 0), s.Prefix(""), s.Terms(), s.Bytes(), s.Text())
		}
		m, e := segment.Merge(s, s, nil)
		if e != api.OK || string(m.Bytes()) != "\x00\x00\x00\x00" {
			t.Error(m, e)
		}
	}
}

// P20.1, P20.2: what is handed out is not the segment's.
func TestMemory(t *testing.T) {
	docs := []api.Doc{doc("a", "red fox", "red"), doc("b", "red foxes"), doc("c", "red hen")}
	s := build(t, docs)
	s.Kill("b")
	gone := map[string]bool{"b": true}
	for _, w := range words(docs) {
		spoil(s.List(w))
		spoilSpots(s.At(w, 0))
	}
	for _, x := range s.Terms() {
		spoil(x.List)
	}
	l := s.Terms()
	for i := range l[:cap(l)] {
		l[:cap(l)][i] = api.Term{Text: "spoilt"}
	}
	set := s.Set()
	set.Put(1)
	set.Cut(0)
	names := s.Prefix("")
	for i := range names[:cap(names)] {
		names[:cap(names)][i] = "spoilt"
	}
	b := s.Bytes()
	for i := range b[:cap(b)] {
		b[:cap(b)][i] = 0x77
	}
	same(t, s, docs, gone)
	for i := range docs {
		docs[i] = doc("spoilt", "spoilt")
	}
	same(t, s, []api.Doc{doc("a", "red fox", "red"), doc("b", "red foxes"), doc("c", "red hen")}, gone)
}

// P20.1: two segments, and a copy of one, know nothing of one another.
func TestApart(t *testing.T) {
	docs := []api.Doc{doc("a", "red fox"), doc("b", "red foxes"), doc("c", "red hen")}
	s, other := build(t, docs), build(t, docs)
	s.Kill("a")
	c := *s
	c.Kill("b")
	s.Kill("c")
	same(t, s, docs, map[string]bool{"a": true, "c": true})
	same(t, &c, docs, map[string]bool{"a": true, "b": true})
	same(t, other, docs, nil)
}
