package facet_test

import (
	"math/rand"
	"slices"
	"strings"
	"testing"

	"scholia/api"
	"scholia/match"
	"scholia/parse"
	"scholia/segment"
	"scholia/terms"
)

// doc is a document of a name, and of these fields' texts.
func doc(id string, texts ...string) api.Doc {
	d := api.Doc{Id: id}
	copy(d.Text[:], texts)
	return d
}

// build is a segment of documents that may be.
func build(t *testing.T, docs ...api.Doc) *segment.Segment {
	t.Helper()
	s, e := segment.Build(docs)
	if e != api.OK {
		t.Fatal(docs, e)
	}
	return s
}

// node is a query that may be.
func node(t *testing.T, text string) api.Node {
	t.Helper()
	n, e := parse.Parse(text)
	if e != api.OK {
		t.Fatal(text, e)
	}
	return n
}

// words is the terms of a field of a document, or of all (0), each once.
func words(d api.Doc, field int) []string {
	var l []string
	for i, text := range d.Text {
		for _, x := range terms.Text(text) {
			if field == 0 || field == i+1 {
				l = append(l, x.Term)
			}
		}
	}
	slices.Sort(l)
	return slices.Compact(l)
}

// ranked is the k first of hits, by their scores, then by their names.
func ranked(l []api.Hit, k int) []api.Hit {
	slices.SortFunc(l, func(a, b api.Hit) int {
		if a.Score != b.Score {
			return b.Score - a.Score
		}
		return strings.Compare(a.Id, b.Id)
	})
	return l[:max(0, min(k, 20, len(l)))]
}

// counts is by a scan in how many documents that a query asks for each term stands.
func counts(t *testing.T, docs []api.Doc, n api.Node, field, k int) []api.Hit {
	t.Helper()
	var all []string
	for _, d := range docs {
		if match.Match(build(t, d), n).Has(0) {
			all = append(all, words(d, field)...)
		}
	}
	slices.Sort(all)
	var l []api.Hit
	for _, w := range slices.Compact(slices.Clone(all)) {
		h := api.Hit{Id: w}
		for _, x := range all {
			if x == w {
				h.Score++
			}
		}
		l = append(l, h)
	}
	return ranked(l, k)
}

// like is by a scan how many terms each document has in common with one.
func like(docs []api.Doc, id string, k int) []api.Hit {
	var l []api.Hit
	for _, one := range docs {
		for _, d := range docs {
			n := 0
			for _, w := range words(d, 0) {
				if one.Id == id && d.Id != id && slices.Contains(words(one, 0), w) {
					n++
				}
			}
			if n > 0 {
				l = append(l, api.Hit{Id: d.Id, Score: n})
			}
		}
	}
	return ranked(l, k)
}

// totals is by a scan how many documents, terms and places there are.
func totals(docs []api.Doc) (int, int, int) {
	var all []string
	places := 0
	for _, d := range docs {
		all = append(all, words(d, 0)...)
		for _, text := range d.Text {
			places += len(terms.Text(text))
		}
	}
	slices.Sort(all)
	return len(docs), len(slices.Compact(all)), places
}

// someDocs is documents of some words, by rising names.
func someDocs(rnd *rand.Rand, many int) []api.Doc {
	words := []string{"red", "red", "red", "fox", "foxes", "hen", "the", "é", "red"}
	var l []api.Doc
	for i := range rnd.Intn(many + 1) {
		d := doc(string(rune('a'+i/8)) + string("AZaz\x00\xff~0"[i%8]))
		for k := range d.Text {
			for range rnd.Intn(2) * rnd.Intn(5) {
				w := words[rnd.Intn(len(words))]
				if rnd.Intn(3) == 0 {
					w = string(rune('b'+rnd.Intn(24))) + "7"
				}
				d.Text[k] += w + " "
			}
		}
		l = append(l, d)
	}
	slices.SortFunc(l, func(a, b api.Doc) int { return strings.Compare(a.Id, b.Id) })
	return l
}
