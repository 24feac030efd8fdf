package oracle

import (
	"slices"
	"strings"

	"scholia/api"
	"scholia/parse"
	"scholia/score"
	"scholia/terms"
)

// maxTimes is how often something counts in a document at most.
const maxTimes = 255

// page is a document, and what it is found by.
type page struct {
	id    string
	terms []api.Term
}

// Scan is the best of documents that a text asks for, one by one.
func Scan(l []api.Doc, text string, k int) ([]api.Hit, api.Errno) {
	n, e := parse.Parse(text)
	if e != api.OK {
		return nil, e
	}
	var pages []page
	for _, d := range l {
		pages = append(pages, page{d.Id, terms.Doc(d, 0)})
	}
	scores := scored(pages, parse.Leaves(n))
	var hits []api.Hit
	for i, p := range pages {
		if p.asked(n) {
			hits = append(hits, api.Hit{Id: p.id, Score: scores[i]})
		}
	}
	slices.SortStableFunc(hits, compare)
	return slices.Clone(hits[:max(0, min(k, api.MaxTop, len(hits)))]), api.OK
}

// compare holds two hits against each other: the better one stands ahead.
func compare(a, b api.Hit) int {
	switch {
	case score.Less(a, b):
		return -1
	case score.Less(b, a):
		return 1
	}
	return 0
}

// scored is what the leaves of a query come to in each of some documents.
func scored(pages []page, leaves []api.Node) []int {
	scores := make([]int, len(pages))
	for _, leaf := range leaves {
		counts := make([]int, len(pages))
		in := 0
		for i, p := range pages {
			counts[i] = min(p.count(leaf), maxTimes)
			if counts[i] > 0 {
				in++
			}
		}
		weight := score.Weight(len(pages), in)
		for i, n := range counts {
			scores[i] += n * weight
		}
	}
	return scores
}

// asked tells whether a query asks for a document.
func (p page) asked(n api.Node) bool {
	switch n.Kind {
	case api.QAny:
		return true
	case api.QAnd:
		return !slices.ContainsFunc(n.Kids, func(kid api.Node) bool { return !p.asked(kid) })
	case api.QOr:
		return slices.ContainsFunc(n.Kids, p.asked)
	case api.QNot:
		return !slices.ContainsFunc(n.Kids, p.asked)
	}
	return p.count(n) > 0
}

// count is how often what a leaf of a query asks for stands in a document.
func (p page) count(leaf api.Node) int {
	first := leaf.Terms[0]
	switch leaf.Kind {
	case api.QPrefix:
		return p.times(leaf.Field, func(term string) bool { return strings.HasPrefix(term, first.Term) })
	case api.QPhrase:
		return p.phrases(leaf)
	}
	return p.times(leaf.Field, func(term string) bool { return term == first.Term })
}

// times is how often terms that are meant stand in a field (0: in any).
func (p page) times(field int, meant func(term string) bool) int {
	n := 0
	for _, t := range p.terms {
		if !meant(t.Text) {
			continue
		}
		for _, posting := range t.List {
			n += terms.Count(posting, field)
		}
	}
	return n
}

// phrases is at how many places terms begin to stand as a phrase has them.
func (p page) phrases(leaf api.Node) int {
	n := 0
	for field := 1; field <= api.Fields; field++ {
		if leaf.Field != 0 && leaf.Field != field {
			continue
		}
		row := p.row(field)
		for at := range row {
			apart := func(t api.Token) bool {
				place := at + t.At - leaf.Terms[0].At
				return place >= len(row) || row[place] != t.Term
			}
			if !slices.ContainsFunc(leaf.Terms, apart) {
				n++
			}
		}
	}
	return n
}

// row is the terms of a field at their places; empty, where none stands.
func (p page) row(field int) [api.MaxWords]string {
	var row [api.MaxWords]string
	for _, t := range p.terms {
		for _, posting := range t.List {
			for _, spot := range posting.Spots {
				if spot.Field != field {
					continue
				}
				for _, at := range spot.At {
					row[at] = t.Text
				}
			}
		}
	}
	return row
}
