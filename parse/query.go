package parse

import (
	"strings"

	"scholia/api"
	"scholia/fold"
	"scholia/terms"
	"scholia/utf"
)

// query is a query's text that is read part by part, each by the method of its name; how far it was read; and how many of (, - and : are open there.
type query struct {
	text string
	at   int
	open int
}

func (q *query) any() (api.Node, api.Errno) {
	return joined(api.QOr, q.every, func() bool { return q.takes('|') })
}

func (q *query) every() (api.Node, api.Errno) {
	return joined(api.QAnd, q.unary, func() bool { return !q.ends() && !q.comes('|') && !q.comes(')') })
}

// joined reads a part, and again as long as there are more: one node of a kind, if there are several.
func joined(kind int, read func() (api.Node, api.Errno), more func() bool) (api.Node, api.Errno) {
	n, e := read()
	kids := []api.Node{n}
	for e == api.OK && more() {
		n, e = read()
		kids = append(kids, n)
	}
	if e != api.OK || len(kids) == 1 {
		return n, e
	}
	return api.Node{Kind: kind, Kids: kids}, api.OK
}

func (q *query) unary() (api.Node, api.Errno) {
	if !q.takes('-') {
		return q.atom()
	}
	n, e := q.deeper(q.unary)
	return api.Node{Kind: api.QNot, Kids: []api.Node{n}}, e
}

func (q *query) atom() (api.Node, api.Errno) {
	switch {
	case q.takes('('):
		n, e := q.deeper(q.any)
		if e == api.OK && !q.takes(')') {
			e = api.ESYNTAX
		}
		return n, e
	case q.takes('"'):
		return q.quoted()
	}
	return q.word()
}

// deeper reads what stands behind one more of (, - and :, which is open as long.
func (q *query) deeper(read func() (api.Node, api.Errno)) (api.Node, api.Errno) {
	if q.open == api.MaxDepth {
		return api.Node{}, api.EDEEP
	}
	q.open++
	n, e := read()
	q.open--
	return n, e
}

// quoted reads the rest of what stands between two ".
func (q *query) quoted() (api.Node, api.Errno) {
	text, _, closed := strings.Cut(q.text[q.at:], `"`)
	if !closed {
		return api.Node{}, api.ESYNTAX
	}
	q.at += len(text) + 1
	return asked(text), api.OK
}

// word reads a word, ahead of which no blanks are left, and what stands behind it at once.
func (q *query) word() (api.Node, api.Errno) {
	word := q.signs()
	switch {
	case word == "":
		return api.Node{}, api.ESYNTAX
	case q.stands('*'):
		q.at++
		return begun(word), api.OK
	case q.stands(':'):
		q.at++
		return q.within(Field(word))
	}
	return asked(word), api.OK
}

// within reads the atom that is asked for in a field.
func (q *query) within(field int) (api.Node, api.Errno) {
	if field == 0 {
		return api.Node{}, api.ESYNTAX
	}
	n, e := q.deeper(q.atom)
	return put(n, field), e
}

// put is a query whose leaves without a field have one; its kids are changed.
func put(n api.Node, field int) api.Node {
	if len(n.Terms) > 0 && n.Field == 0 {
		n.Field = field
	}
	for i, kid := range n.Kids {
		n.Kids[i] = put(kid, field)
	}
	return n
}

// asked is what a word, or what stands between two ", asks for.
func asked(text string) api.Node {
	l := terms.Text(text)
	if len(l) == 0 {
		return api.Node{Kind: api.QAny}
	}
	first := l[0].At
	for i := range l {
		l[i].At -= first
	}
	if len(l) == 1 {
		return api.Node{Kind: api.QTerm, Terms: l}
	}
	return api.Node{Kind: api.QPhrase, Terms: l}
}

// begun is what a word with * asks for.
func begun(word string) api.Node {
	prefix, ok := terms.Prefix(word)
	if !ok {
		return api.Node{Kind: api.QAny}
	}
	return api.Node{Kind: api.QPrefix, Terms: []api.Token{{Term: prefix}}}
}

// signs takes the signs that make a word, as many as there are; none, if none stands here.
func (q *query) signs() string {
	from := q.at
	for q.at < len(q.text) {
		r, n := utf.Next(q.text, q.at)
		if !fold.Word(r) {
			break
		}
		q.at += n
	}
	return q.text[from:q.at]
}

// skip passes over blanks.
func (q *query) skip() {
	for q.stands(' ') {
		q.at++
	}
}

// ends tells whether nothing but blanks is left.
func (q *query) ends() bool {
	q.skip()
	return q.at == len(q.text)
}

// stands tells whether a byte stands here; comes, whether it does behind blanks; takes takes it, if so.
func (q *query) stands(c byte) bool {
	return q.at < len(q.text) && q.text[q.at] == c
}

func (q *query) comes(c byte) bool {
	q.skip()
	return q.stands(c)
}

func (q *query) takes(c byte) bool {
	if !q.comes(c) {
		return false
	}
	q.at++
	return true
}
