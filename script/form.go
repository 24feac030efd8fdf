package script

import (
	"strconv"
	"strings"

	"scholia/api"
)

// part is something that may stand behind a line's word.
type part int

const (
	rep part = iota
	to
	many
	turn
	at
	field
	doc
	text
)

// The numbers that may stand in a line.
const (
	least = -1
	most  = 1 << 30
)

// form is how the lines of a kind look.
type form struct {
	word  string
	parts []part
	keeps bool // all of Keep stands behind the parts
}

// forms is the forms of all kinds. No kind is 0.
var forms = [...]form{
	api.SPut:     {word: "put", parts: []part{rep, doc, field, text}},
	api.SDrop:    {word: "drop", parts: []part{rep, doc}},
	api.SSync:    {word: "sync", parts: []part{rep}},
	api.SSend:    {word: "send", parts: []part{rep, to}},
	api.SDeliver: {word: "deliver", parts: []part{rep, to, many}},
	api.SLose:    {word: "lose", parts: []part{rep, to, many}},
	api.SDouble:  {word: "double", parts: []part{rep, to, many}},
	api.SSpoil:   {word: "spoil", parts: []part{rep, to, many, at, turn}},
	api.SCrash:   {word: "crash", parts: []part{rep, turn, at}, keeps: true},
	api.SStart:   {word: "start", parts: []part{rep}},
	api.SFuse:    {word: "fuse", parts: []part{rep, many}},
	api.SFlush:   {word: "flush", parts: []part{rep}},
	api.SCompact: {word: "compact", parts: []part{rep}},
	api.SCollect: {word: "collect", parts: []part{rep}},
	api.SSave:    {word: "save", parts: []part{rep}},
	api.SQuery:   {word: "query", parts: []part{rep, many, text}},
}

// kind is the kind whose lines begin with a word; 0: there is none.
func kind(word string) int {
	for k, f := range forms {
		if f.word == word {
			return k
		}
	}
	return 0
}

// number is where a step has a part that is a number; nil: that part is none.
func number(x *api.Step, p part) *int {
	switch p {
	case rep:
		return &x.Rep
	case to:
		return &x.To
	case many:
		return &x.N
	case turn:
		return &x.X
	case at:
		return &x.At
	case field:
		return &x.Field
	}
	return nil
}

// quoted is where a step has a part that is a text.
func quoted(x *api.Step, p part) *string {
	if p == doc {
		return &x.Doc
	}
	return &x.Text
}

// written is the word of a step's kind, and the step's parts.
func written(x api.Step) string {
	f := forms[x.Kind]
	words := []string{f.word}
	for _, p := range f.parts {
		if n := number(&x, p); n != nil {
			words = append(words, strconv.Itoa(*n))
		} else {
			words = append(words, Quote(*quoted(&x, p)))
		}
	}
	if f.keeps {
		for _, n := range x.Keep {
			words = append(words, strconv.Itoa(n))
		}
	}
	return strings.Join(words, " ")
}

// set lets a step of a kind have what words say; false: they are not its parts.
func set(x *api.Step, words []string) bool {
	f := forms[x.Kind]
	n := len(f.parts)
	if len(words) < n || len(words) > n && !f.keeps {
		return false
	}
	for i, p := range f.parts {
		if !setPart(x, p, words[i]) {
			return false
		}
	}
	for _, w := range words[n:] {
		page, ok := value(w)
		if !ok {
			return false
		}
		x.Keep = append(x.Keep, page)
	}
	return true
}

// setPart lets a step have a part as a word says; false: it says none.
func setPart(x *api.Step, p part, w string) bool {
	ok := false
	if n := number(x, p); n != nil {
		*n, ok = value(w)
	} else {
		*quoted(x, p), ok = Unquote(w)
	}
	return ok
}

// value is the number that a word says, in its one form; false: it says none.
func value(w string) (int, bool) {
	n, e := strconv.Atoi(w)
	return n, e == nil && strconv.Itoa(n) == w && n >= least && n <= most
}
