package excerpt_test

import (
	"math/rand"
	"slices"
	"strings"
	"testing"

	"scholia/api"
	"scholia/parse"
	"scholia/terms"
	"scholia/token"
)

// node is a query that may be.
func node(t *testing.T, text string) api.Node {
	t.Helper()
	n, e := parse.Parse(text)
	if e != api.OK {
		t.Fatal(text, e)
	}
	return n
}

// leaf is a node of a kind whose terms stand at these places.
func leaf(kind, field int, l ...api.Token) api.Node {
	return api.Node{Kind: kind, Field: field, Terms: l}
}

func tok(term string, at int) api.Token { return api.Token{Term: term, At: at} }

// marks is by a scan, place by place, where what a query asks for stands in a text; of places of phrases that are small.
func marks(s string, n api.Node, field int) []int {
	l := terms.Text(s)
	var all []int
	for at := range 60 {
		if slices.ContainsFunc(parse.Leaves(n), func(leaf api.Node) bool { return has(l, at, leaf, field) }) {
			all = append(all, at)
		}
	}
	return all
}

// has tells whether a place is of what a leaf asks for.
func has(l []api.Token, at int, leaf api.Node, field int) bool {
	if len(leaf.Terms) == 0 || leaf.Field != 0 && leaf.Field != field {
		return false
	}
	first := leaf.Terms[0]
	switch leaf.Kind {
	case api.QTerm:
		return slices.Contains(l, tok(first.Term, at))
	case api.QPrefix:
		return slices.ContainsFunc(l, func(x api.Token) bool { return x.At == at && strings.HasPrefix(x.Term, first.Term) })
	}
	for start := range 60 {
		part, all := false, true
		for _, x := range leaf.Terms {
			where := start + x.At - first.At
			part = part || where == at
			all = all && slices.Contains(l, tok(x.Term, where))
		}
		if part && all {
			return true
		}
	}
	return false
}

// window is by trying each place from which on most marks stand.
func window(marks []int, words, width int) int {
	words, width = max(words, 0), max(width, 0)
	best, most := 0, -1
	for from := 0; from == 0 || from <= words-width; from++ {
		n := 0
		for _, at := range marks {
			if at >= from && at < from+width {
				n++
			}
		}
		if n > most {
			best, most = from, n
		}
	}
	return best
}

// shown is an excerpt, put together byte by byte.
func shown(s string, n api.Node, field, width int) string {
	spans := token.Spans(s)
	if len(spans) == 0 {
		return ""
	}
	width = max(1, min(20, width))
	where := marks(s, n, field)
	from := window(where, len(spans), width)
	upto := min(from+width, len(spans))
	out := ""
	for i := range len(s) {
		for at := from; at < upto; at++ {
			if spans[at].From == i && slices.Contains(where, at) {
				out += "["
			}
		}
		if i >= spans[from].From && i < spans[upto-1].To {
			out += s[i : i+1]
		}
		for at := from; at < upto; at++ {
			if spans[at].To == i+1 && slices.Contains(where, at) {
				out += "]"
			}
		}
	}
	if from > 0 {
		out = "..." + out
	}
	if upto < len(spans) {
		out += "..."
	}
	return out
}

// someText is a text of few words, and of what is none.
func someText(rnd *rand.Rand) string {
	pieces := []string{"red", "Red", "fox", "foxes", "the", "hen", "é", "\xff", "€", "fo", "[x]", strings.Repeat("x", 21)}
	var b strings.Builder
	for range rnd.Intn(30) {
		b.WriteString(pieces[rnd.Intn(len(pieces))] + []string{" ", ", ", "", "  "}[rnd.Intn(4)])
	}
	if rnd.Intn(6) == 0 {
		b.WriteString(strings.Repeat(" the red fox of", 10+rnd.Intn(10)))
	}
	return b.String()
}

// someNode is a query, also such ones as Parse never answers.
func someNode(rnd *rand.Rand, deep int) api.Node {
	n := api.Node{Kind: rnd.Intn(3) + api.QTerm, Field: max(0, rnd.Intn(6)-2)}
	if deep > 0 && rnd.Intn(2) == 0 {
		n.Kind = rnd.Intn(4) + api.QAnd
	}
	words := []string{"red", "fox", "fo", "foxe", "hen", "the", "é", ""}
	for i := range rnd.Intn(4) {
		x := tok(words[rnd.Intn(len(words))], i)
		if rnd.Intn(4) == 0 {
			x.At = rnd.Intn(7) - 3
		}
		n.Terms = append(n.Terms, x)
	}
	if deep > 0 {
		for range rnd.Intn(4) {
			n.Kids = append(n.Kids, someNode(rnd, deep-1))
		}
	}
	return n
}
