package parse_test

import (
	"fmt"
	"math/rand"
	"strings"
	"unicode/utf8"

	"scholia/api"
)

// word, begin, phrase, and, or, not and all are short ways to write nodes.
func word(field int, term string) api.Node {
	return api.Node{Kind: api.QTerm, Field: field, Terms: []api.Token{{Term: term}}}
}

func begin(field int, term string) api.Node {
	return api.Node{Kind: api.QPrefix, Field: field, Terms: []api.Token{{Term: term}}}
}

func phrase(field int, l ...api.Token) api.Node {
	return api.Node{Kind: api.QPhrase, Field: field, Terms: l}
}

func tok(term string, at int) api.Token { return api.Token{Term: term, At: at} }

func and(kids ...api.Node) api.Node { return api.Node{Kind: api.QAnd, Kids: kids} }

func or(kids ...api.Node) api.Node { return api.Node{Kind: api.QOr, Kids: kids} }

func not(kid api.Node) api.Node { return api.Node{Kind: api.QNot, Kids: []api.Node{kid}} }

var all = api.Node{Kind: api.QAny}

// told is a query with all its fields as a text.
func told(n api.Node) string {
	var b strings.Builder
	fmt.Fprintf(&b, "%d/%d", n.Kind, n.Field)
	for _, t := range n.Terms {
		fmt.Fprintf(&b, " %q@%d", t.Term, t.At)
	}
	for _, kid := range n.Kids {
		b.WriteString(" (" + told(kid) + ")")
	}
	return b.String()
}

// proper tells whether a query may be an answer of Parse (P22.4).
func proper(n api.Node) bool {
	terms, kids := len(n.Terms), len(n.Kids)
	for _, kid := range n.Kids {
		if !proper(kid) {
			return false
		}
	}
	for i, t := range n.Terms {
		if t.Term == "" || (t.At == 0) != (i == 0) || i > 0 && t.At <= n.Terms[i-1].At {
			return false
		}
	}
	if n.Field < 0 || n.Field > 4 || terms == 0 && n.Field != 0 {
		return false
	}
	switch n.Kind {
	case api.QAny:
		return terms == 0 && kids == 0
	case api.QTerm, api.QPrefix:
		return terms == 1 && kids == 0
	case api.QPhrase:
		return terms >= 2 && kids == 0
	case api.QAnd, api.QOr:
		return terms == 0 && kids >= 2
	case api.QNot:
		return terms == 0 && kids == 1
	}
	return false
}

// maker makes queries, and what they should come to.
type maker struct{ rnd *rand.Rand }

// some is one of several texts.
func (m maker) some(l ...string) string { return l[m.rnd.Intn(len(l))] }

// blanks is none, or some.
func (m maker) blanks() string { return m.some("", "", " ", "   ") }

// any is one, where so many of (, - and : are open around it, in a field.
func (m maker) any(open, field int) (string, api.Node) {
	s, n := m.every(open, field)
	kids := []api.Node{n}
	for m.rnd.Intn(4) == 0 {
		t, n := m.every(open, field)
		s += m.blanks() + "|" + t
		kids = append(kids, n)
	}
	if len(kids) == 1 {
		return s, kids[0]
	}
	return s, or(kids...)
}

func (m maker) every(open, field int) (string, api.Node) {
	s, n := m.unary(open, field)
	kids := []api.Node{n}
	for m.rnd.Intn(3) == 0 {
		t, n := m.unary(open, field)
		last, _ := utf8.DecodeLastRuneInString(s)
		first, _ := utf8.DecodeRuneInString(t)
		if wordly(last) && wordly(first) {
			s += " "
		}
		s += t
		kids = append(kids, n)
	}
	if len(kids) == 1 {
		return s, kids[0]
	}
	return s, and(kids...)
}

// wordly tells whether a sign of what is made here stands in words.
func wordly(r rune) bool { return !strings.ContainsRune(` "()|-*`, r) }

func (m maker) unary(open, field int) (string, api.Node) {
	if open < 6 && m.rnd.Intn(5) == 0 {
		s, n := m.unary(open+1, field)
		return m.blanks() + "-" + s, not(n)
	}
	return m.atom(open, field)
}

func (m maker) atom(open, field int) (string, api.Node) {
	kind := m.rnd.Intn(8)
	if open == 6 {
		kind %= 5
	}
	text, term := m.word()
	switch kind {
	case 0:
		return m.quoted(field)
	case 1:
		low := strings.ToLower(text)
		if len(low) > 20 {
			return m.blanks() + text + "*", all
		}
		return m.blanks() + text + "*", begin(field, low)
	case 5:
		s, n := m.any(open+1, field)
		return m.blanks() + "(" + s + m.blanks() + ")", n
	case 6, 7:
		inner := m.rnd.Intn(4) + 1
		s, n := m.atom(open+1, inner)
		return m.blanks() + []string{"title", "body", "tag", "note"}[inner-1] + ":" + s, n
	}
	if term == "" {
		return m.blanks() + text, all
	}
	return m.blanks() + text, word(field, term)
}

// word is a word, and its term; "", if it has none.
func (m maker) word() (string, string) {
	l := []struct{ text, term string }{
		{"red", "red"}, {"FOX", "fox"}, {"foxes", "foxe"}, {"running", "run"}, {"the", ""}, {"And", ""}, {"title", "title"}, {"7", "7"}, {"É", "é"}, {"жук", "жук"}, {"a", ""},
		{strings.Repeat("x", 20), strings.Repeat("x", 20)}, {strings.Repeat("x", 21), ""}, {strings.Repeat("É", 11), ""},
	}
	x := l[m.rnd.Intn(len(l))]
	return x.text, x.term
}

func (m maker) quoted(field int) (string, api.Node) {
	s := m.some("", " ", "(", ":*", "€")
	var l []api.Token
	for at := range m.rnd.Intn(4) {
		text, term := m.word()
		s += text + m.some(" ", "  ", "-", "|", ") ", "€", ":", "* ")
		if term != "" {
			l = append(l, tok(term, at))
		}
	}
	s = m.blanks() + `"` + s + `"`
	if len(l) == 0 {
		return s, all
	}
	for i := len(l) - 1; i >= 0; i-- {
		l[i].At -= l[0].At
	}
	if len(l) == 1 {
		return s, word(field, l[0].Term)
	}
	return s, phrase(field, l...)
}

// fault is a query's first error, from left to right, told by what is open, and by whether an atom has to come; of texts of these signs alone: blanks ( ) | - " : * letters a to z, and €.
func fault(s string) api.Errno {
	open := ""      // of (, - and :
	expects := true // something has to come
	for s = strings.TrimLeft(s, " "); ; s = strings.TrimLeft(s, " ") {
		n := len(s) - len(strings.TrimLeft(s, "abcdefghijklmnopqrstuvwxyz"))
		opens := ""
		switch {
		case !expects && s == "":
			if strings.Contains(open, "(") {
				return api.ESYNTAX
			}
			return api.OK
		case !expects && s[0] == ')':
			at := strings.LastIndex(open, "(")
			if at < 0 {
				return api.ESYNTAX
			}
			open, s = strings.TrimRight(open[:at], "-:"), s[1:]
			continue
		case !expects && s[0] == '|':
			expects, s = true, s[1:]
			continue
		case !expects:
			expects = true
			continue
		case s == "":
			return api.ESYNTAX
		case s[0] == '(', s[0] == '-' && !strings.HasSuffix(open, ":"):
			opens, s = s[:1], s[1:]
		case s[0] == '"' && strings.Contains(s[1:], `"`):
			s = s[strings.Index(s[1:], `"`)+2:]
		case n > 0 && strings.HasPrefix(s[n:], ":"):
			if !strings.Contains(" title body tag note ", " "+s[:n]+" ") {
				return api.ESYNTAX
			}
			opens, s = ":", s[n+1:]
		case n > 0:
			s = strings.TrimPrefix(s[n:], "*")
		default:
			return api.ESYNTAX
		}
		if opens == "" {
			expects, open = false, strings.TrimRight(open, "-:")
		} else if open += opens; len(open) > 6 {
			return api.EDEEP
		}
	}
}
