package match_test

import (
	"math/rand"
	"slices"
	"strings"
	"testing"

	"scholia/api"
	"scholia/segment"
	"scholia/terms"
)

// doc is a document of a name, and of these fields' texts.
func doc(id string, texts ...string) api.Doc {
	d := api.Doc{Id: id}
	copy(d.Text[:], texts)
	return d
}

// build is a segment of documents that may be.
func build(t *testing.T, docs ...api.Doc) *segment.Segment {
	t.Helper()
	s, e := segment.Build(docs)
	if e != api.OK {
		t.Fatal(docs, e)
	}
	return s
}

// leaf is a node of a kind that has terms, each one place behind the one ahead; away is one whose terms stand at these places.
func leaf(kind, field int, words ...string) api.Node {
	n := api.Node{Kind: kind, Field: field}
	for at, w := range words {
		n.Terms = append(n.Terms, api.Token{Term: w, At: at})
	}
	return n
}

func away(n api.Node, at ...int) api.Node {
	n.Terms = slices.Clone(n.Terms)
	for i := range n.Terms {
		n.Terms[i].At = at[i]
	}
	return n
}

// over is a node of a kind that has kids.
func over(kind int, kids ...api.Node) api.Node { return api.Node{Kind: kind, Kids: kids} }

// times is by a scan of its texts how often what a leaf asks for stands in a document.
func times(d api.Doc, n api.Node) int {
	count := 0
	for i, text := range d.Text {
		if len(n.Terms) == 0 || n.Field != 0 && n.Field != i+1 {
			continue
		}
		l := terms.Text(text)
		for _, x := range l {
			switch {
			case n.Kind == api.QTerm && x.Term == n.Terms[0].Term,
				n.Kind == api.QPrefix && strings.HasPrefix(x.Term, n.Terms[0].Term),
				n.Kind == api.QPhrase && stands(l, x.At, n.Terms):
				count++
			}
		}
	}
	return count
}

// stands tells whether the terms of a phrase whose places are small stand behind one another, from a place on.
func stands(l []api.Token, at int, phrase []api.Token) bool {
	for _, x := range phrase {
		if !slices.Contains(l, api.Token{Term: x.Term, At: at + x.At - phrase[0].At}) {
			return false
		}
	}
	return true
}

// asks tells by a scan whether a query asks for a document.
func asks(d api.Doc, n api.Node) bool {
	some := slices.ContainsFunc(n.Kids, func(kid api.Node) bool { return asks(d, kid) })
	switch n.Kind {
	case api.QAny:
		return true
	case api.QAnd:
		return !slices.ContainsFunc(n.Kids, func(kid api.Node) bool { return !asks(d, kid) })
	case api.QOr:
		return some
	case api.QNot:
		return !some
	}
	return times(d, n) > 0
}

// someDocs is documents of few words, by rising names.
func someDocs(rnd *rand.Rand, many int) []api.Doc {
	var l []api.Doc
	for i := range rnd.Intn(many + 1) {
		d := doc(string(rune('a'+i/26)) + string(rune('a'+i%26)))
		for k := range d.Text {
			for range rnd.Intn(2) * rnd.Intn(8) {
				d.Text[k] += someWord(rnd) + " "
			}
		}
		l = append(l, d)
	}
	return l
}

func someWord(rnd *rand.Rand) string {
	l := []string{"red", "fox", "red", "fo", "foxy", "the", "é", "hen"}
	return l[rnd.Intn(len(l))]
}

// someNode is a query, also such ones as Parse never answers.
func someNode(rnd *rand.Rand, deep int) api.Node {
	n := api.Node{Kind: rnd.Intn(3) + api.QTerm}
	if deep > 0 && rnd.Intn(2) == 0 {
		n.Kind = rnd.Intn(4) + api.QAnd - 1
		if n.Kind == api.QPhrase {
			n.Kind = api.QAny
		}
	}
	if rnd.Intn(20) == 0 {
		n.Kind = rnd.Intn(13) - 3
	}
	if rnd.Intn(2) == 0 {
		n.Field = rnd.Intn(7) - 1
	}
	for i := range rnd.Intn(4) {
		x := api.Token{Term: someWord(rnd), At: i}
		if rnd.Intn(8) == 0 {
			x.Term = []string{"", "f", "x", "r"}[rnd.Intn(4)]
		}
		if rnd.Intn(4) == 0 {
			x.At = rnd.Intn(7) - 3
		}
		n.Terms = append(n.Terms, x)
	}
	if deep > 0 {
		for range rnd.Intn(4) {
			n.Kids = append(n.Kids, someNode(rnd, deep-1))
		}
	}
	return n
}
