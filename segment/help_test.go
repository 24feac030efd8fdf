package segment_test

import (
	"encoding/hex"
	"math/rand"
	"slices"
	"strings"
	"testing"

	"scholia/api"
	"scholia/coder"
	"scholia/dict"
	"scholia/posting"
	"scholia/segment"
	"scholia/terms"
)

func unhex(s string) []byte {
	b, err := hex.DecodeString(s)
	if err != nil {
		panic(err)
	}
	return b
}

// doc is a document of a name, and of these fields' texts.
func doc(id string, texts ...string) api.Doc {
	d := api.Doc{Id: id}
	copy(d.Text[:], texts)
	return d
}

// someName is a name; someDocs is documents by rising names.
func someName(rnd *rand.Rand) string {
	return []string{"a", "b", "c", "fox", "\x00", "\xff", "a-1", "123456789012"}[rnd.Intn(8)] + []string{"", "", "1", "é"}[rnd.Intn(4)]
}

func someDocs(rnd *rand.Rand, many int) []api.Doc {
	var l []api.Doc
	for range rnd.Intn(many + 1) {
		d := doc(someName(rnd))
		for i := range d.Text {
			if rnd.Intn(2) == 0 {
				d.Text[i] = someText(rnd)
			}
		}
		if len(d.Id) <= 12 {
			l = append(l, d)
		}
	}
	return inOrder(l)
}

func someText(rnd *rand.Rand) string {
	words := []string{"red", "fox", "foxes", "run", "running", "runner", "the", "é", "École", "7", "\xff", "kindness", "Red"}
	var l []string
	for range rnd.Intn(6) {
		l = append(l, words[rnd.Intn(len(words))])
	}
	return strings.Join(l, " ")
}

// inOrder is documents by rising names, of one name the first.
func inOrder(l []api.Doc) []api.Doc {
	l = slices.Clone(l)
	slices.SortStableFunc(l, func(a, b api.Doc) int { return strings.Compare(a.Id, b.Id) })
	return slices.CompactFunc(l, func(a, b api.Doc) bool { return a.Id == b.Id })
}

// spots is where a term stands in a document, by a scan of its texts.
func spots(d api.Doc, term string) []api.Spot {
	var l []api.Spot
	for i, text := range d.Text {
		s := api.Spot{Field: i + 1}
		for _, x := range terms.Text(text) {
			if x.Term == term {
				s.At = append(s.At, x.At)
			}
		}
		if len(s.At) > 0 {
			l = append(l, s)
		}
	}
	return l
}

// words is all terms of documents, rising, by a scan of their texts.
func words(docs []api.Doc) []string {
	var l []string
	for _, d := range docs {
		for _, text := range d.Text {
			for _, x := range terms.Text(text) {
				l = append(l, x.Term)
			}
		}
	}
	slices.Sort(l)
	return slices.Compact(l)
}

// stands is the postings of a term in those documents of which it is not told that they are gone.
func stands(docs []api.Doc, term string, gone map[string]bool) []api.Posting {
	var l []api.Posting
	for i, d := range docs {
		if s := spots(d, term); len(s) > 0 && !gone[d.Id] {
			l = append(l, api.Posting{Doc: i, Spots: s})
		}
	}
	return l
}

// left is the documents that are not gone.
func left(docs []api.Doc, gone map[string]bool) []api.Doc {
	return slices.DeleteFunc(slices.Clone(docs), func(d api.Doc) bool { return gone[d.Id] })
}

// written is by the words of the chapter the bytes of a segment of documents of which some are gone.
func written(docs []api.Doc, gone map[string]bool) []byte {
	b := coder.Num(nil, len(docs))
	var live []int
	for i, d := range docs {
		b = coder.Text(b, d.Id)
		if !gone[d.Id] {
			live = append(live, i)
		}
	}
	b = coder.Rising(coder.Num(b, len(docs)), live)
	all := words(docs)
	d, _ := dict.Build(all)
	b = append(b, d.Bytes()...)
	for _, w := range all {
		p, _ := posting.Encode(stands(docs, w, nil))
		b = coder.Text(b, string(p))
	}
	return b
}

// text is by the words of the chapter a segment as lines.
func text(docs []api.Doc, gone map[string]bool) string {
	s := ""
	for _, d := range left(docs, gone) {
		s += d.Id + "\n"
	}
	for _, w := range words(left(docs, gone)) {
		s += w
		for _, p := range stands(docs, w, gone) {
			s += " " + docs[p.Doc].Id
		}
		s += "\n"
	}
	return s
}

// build is a segment of documents that may be.
func build(t *testing.T, docs []api.Doc) *segment.Segment {
	t.Helper()
	s, e := segment.Build(docs)
	if e != api.OK || s == nil {
		t.Fatalf("%v: error %d", docs, e)
	}
	return s
}

// spoil turns all that postings have, and the room behind the ends of their lists.
func spoil(l []api.Posting) {
	l = l[:cap(l)]
	for i := range l {
		spoilSpots(l[i].Spots)
		l[i] = api.Posting{Doc: 99, Spots: []api.Spot{{Field: 99}}}
	}
}

func spoilSpots(l []api.Spot) {
	l = l[:cap(l)]
	for i := range l {
		at := l[i].At[:cap(l[i].At)]
		for k := range at {
			at[k] = 99
		}
		l[i] = api.Spot{Field: 99, At: []int{99}}
	}
}

// same tells whether a segment is one of these documents of which some are gone, by all that it answers.
func same(t *testing.T, s *segment.Segment, docs []api.Doc, gone map[string]bool) {
	t.Helper()
	live := left(docs, gone)
	if s.Size() != len(docs) || s.Live() != len(live) || s.Set().Size() != len(docs) || s.Set().Count() != len(live) {
		t.Fatalf("%v: %d of %d, set %v", docs, s.Live(), s.Size(), s.Set().List())
	}
	for i, d := range docs {
		if id, ok := s.Id(i); id != d.Id || !ok {
			t.Fatalf("%d of %v: %q", i, docs, id)
		}
		n, ok := s.Find(d.Id)
		if gone[d.Id] && (ok || n != 0) || !gone[d.Id] && (!ok || n != i) || s.Set().Has(i) == gone[d.Id] {
			t.Fatalf("%q of %v: %d, %v", d.Id, docs, n, ok)
		}
	}
	sameTerms(t, s, docs, gone)
	if got, want := s.Text(), text(docs, gone); got != want {
		t.Fatalf("%v: %q, not %q", docs, got, want)
	}
	if got, want := s.Bytes(), written(docs, gone); string(got) != string(want) {
		t.Fatalf("%v: %x, not %x", docs, got, want)
	}
}

// sameTerms tells whether a segment's terms are those of these documents.
func sameTerms(t *testing.T, s *segment.Segment, docs []api.Doc, gone map[string]bool) {
	t.Helper()
	all := words(docs)
	for _, w := range append(slices.Clone(all), "", "r", "hen", "running", "zzz", "\xff") {
		l := stands(docs, w, gone)
		if got := s.List(w); !terms.SameList(got, l) {
			t.Fatalf("%q in %v: %v", w, docs, got)
		}
		for i := -1; i <= len(docs); i++ {
			var at []api.Spot
			if i >= 0 && i < len(docs) && !gone[docs[i].Id] {
				at = spots(docs[i], w)
			}
			if got := s.At(w, i); !terms.SameList([]api.Posting{{Spots: got}}, []api.Posting{{Spots: at}}) {
				t.Fatalf("%q in %d of %v: %v", w, i, docs, got)
			}
		}
		begin := slices.DeleteFunc(slices.Clone(all), func(x string) bool { return !strings.HasPrefix(x, w) })
		if got := s.Prefix(w); !slices.Equal(got, begin) {
			t.Fatalf("%q in %v: %q", w, docs, got)
		}
	}
	var want []api.Term
	for _, w := range words(left(docs, gone)) {
		want = append(want, api.Term{Text: w, List: stands(docs, w, gone)})
	}
	if got := s.Terms(); !terms.Same(got, want) {
		t.Fatalf("%v: %v", docs, got)
	}
}
