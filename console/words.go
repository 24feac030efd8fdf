package console

import (
	"strconv"
	"strings"

	"scholia/api"
	"scholia/cluster"
	"scholia/script"
)

const (
	clusterWords = 3 // cluster, how many replicas, how many pages
	numberWords  = 2 // show or calm, and a number
	most         = 5 // replicas, and rounds
)

// begin makes a session's cluster as words ask for it.
func (s *Session) begin(words []string) api.Errno {
	if len(words) != clusterWords || s.cluster != nil {
		return api.ELINE
	}
	n, ok := number(words[1], 2, most)
	size, okay := number(words[2], 8, 1000)
	if !ok || !okay {
		return api.EARG
	}
	c, e := cluster.New(n, size)
	s.cluster = c
	return e
}

// numbered does what a word asks for by the number behind it.
func numbered(words []string, do func(n int) string) string {
	if len(words) != numberWords {
		return told(api.ELINE)
	}
	n, ok := number(words[1], 0, most)
	if !ok {
		return told(api.ELINE)
	}
	return do(n)
}

// number is the number that a word says, in its one form; false: it says none of these.
func number(w string, least, most int) (int, bool) {
	n, e := strconv.Atoi(w)
	return n, e == nil && strconv.Itoa(n) == w && n >= least && n <= most
}

// told is an error as it is told.
func told(e api.Errno) string {
	if e == api.OK {
		return "ok"
	}
	return "error " + strconv.Itoa(int(e))
}

// verdict is what check tells of n replicas.
func verdict(n int, right func(i int) bool, equal func() bool) string {
	for i := range n {
		if !right(i) {
			return "wrong"
		}
	}
	if equal() {
		return "right equal"
	}
	return "right"
}

// listed is what is told of some, a blank between.
func listed[T any](l []T, tell func(x T) string) string {
	if len(l) == 0 {
		return "none"
	}
	words := make([]string, len(l))
	for i, x := range l {
		words[i] = tell(x)
	}
	return strings.Join(words, " ")
}

// document is a document's name, and its fields' texts.
func document(d api.Doc) string {
	s := d.Id
	for _, text := range d.Text {
		s += "/" + script.Quote(text)
	}
	return s
}

// hit is the name of a document that was found, and its score.
func hit(h api.Hit) string {
	return h.Id + "=" + strconv.Itoa(h.Score)
}
