package score_test

import (
	"math/rand"
	"slices"
	"strings"
	"testing"

	"scholia/api"
	"scholia/index"
	"scholia/match"
	"scholia/parse"
	"scholia/segment"
)

// doc is a document of a name, and of these fields' texts.
func doc(id string, texts ...string) api.Doc {
	d := api.Doc{Id: id}
	copy(d.Text[:], texts)
	return d
}

// build is a segment of documents that may be.
func build(t *testing.T, docs ...api.Doc) *segment.Segment {
	t.Helper()
	s, e := segment.Build(docs)
	if e != api.OK {
		t.Fatal(docs, e)
	}
	return s
}

// node is a query that may be.
func node(t *testing.T, text string) api.Node {
	t.Helper()
	n, e := parse.Parse(text)
	if e != api.OK {
		t.Fatal(text, e)
	}
	return n
}

// filled is an index of documents, some of which were there otherwise, flushed now and then.
func filled(t *testing.T, rnd *rand.Rand, docs []api.Doc) *index.Index {
	t.Helper()
	x := index.New()
	for _, i := range rnd.Perm(len(docs)) {
		if rnd.Intn(3) == 0 {
			put(t, x, doc(docs[rnd.Intn(len(docs))].Id, "fox fox"))
			put(t, x, doc("gone", "red fox hen"))
		}
		if rnd.Intn(4) == 0 && x.Flush() != api.OK || rnd.Intn(20) == 0 && x.Compact() != api.OK {
			t.Fatal("the index")
		}
		put(t, x, docs[i])
	}
	for _, d := range docs {
		if rnd.Intn(3) == 0 {
			put(t, x, d)
		}
	}
	// What was put otherwise behind a document is to be as it should be.
	have := map[string]int{}
	for i, d := range docs {
		have[d.Id] = i
	}
	for _, id := range x.Names() {
		if i, is := have[id]; is {
			put(t, x, docs[i])
		} else {
			x.Cut(id)
		}
		if rnd.Intn(5) == 0 {
			x.Flush()
		}
	}
	return x
}

func put(t *testing.T, x *index.Index, d api.Doc) {
	t.Helper()
	if e := x.Put(d); e != api.OK {
		t.Fatal(d, e)
	}
}

// scan is by the words of the chapter what documents answer, each looked at by itself.
func scan(t *testing.T, docs []api.Doc, n api.Node, k int) []api.Hit {
	t.Helper()
	scores := make([]int, len(docs))
	alone := make([]*segment.Segment, len(docs))
	for i, d := range docs {
		alone[i] = build(t, d)
	}
	for _, leaf := range parse.Leaves(n) {
		counts := make([]int, len(docs))
		df := 0
		for i := range docs {
			counts[i] = match.Counts(alone[i], leaf)[0]
			if counts[i] > 0 {
				df++
			}
		}
		weight := 0
		if df > 0 {
			for left := len(docs) / df; left > 0; left /= 2 {
				weight++
			}
		}
		for i := range docs {
			scores[i] += counts[i] * weight
		}
	}
	var l []api.Hit
	for i, d := range docs {
		if match.Match(alone[i], n).Has(0) {
			l = append(l, api.Hit{Id: d.Id, Score: scores[i]})
		}
	}
	slices.SortFunc(l, func(a, b api.Hit) int {
		if a.Score != b.Score {
			return b.Score - a.Score
		}
		return strings.Compare(a.Id, b.Id)
	})
	return l[:max(0, min(k, 20, len(l)))]
}

// someDocs is documents of few words, by rising names.
func someDocs(rnd *rand.Rand, many int) []api.Doc {
	words := []string{"red", "red", "red", "fox", "foxes", "hen", "the", "é"}
	var l []api.Doc
	for i := range rnd.Intn(many) + 1 {
		d := doc(string(rune('a'+i/8)) + string("AZaz\x00\xff~0"[i%8]))
		for k := range d.Text {
			for range rnd.Intn(2) * rnd.Intn(5) {
				d.Text[k] += words[rnd.Intn(len(words))] + " "
			}
		}
		l = append(l, d)
	}
	slices.SortFunc(l, func(a, b api.Doc) int { return strings.Compare(a.Id, b.Id) })
	return l
}
