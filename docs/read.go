package docs

import (
	"cmp"
	"slices"

	"scholia/api"
	"scholia/dots"
	"scholia/stable"
)

// Of is the writes of a document, of a field, or of all (field below 0).
func Of(s api.State, doc string, field int) []api.Write {
	return without(s.Live, func(w api.Write) bool { return w.Doc != doc || field >= 0 && w.Field != field })
}

// Gone is the dots of writes, in order.
func Gone(l []api.Write) []api.Dot {
	var gone []api.Dot
	for _, w := range l {
		gone = append(gone, w.Dot)
	}
	slices.SortFunc(gone, dots.Compare)
	return slices.Compact(gone)
}

// Names is the documents that are there, in order.
func Names(s api.State) []string {
	var names []string
	for _, w := range s.Live {
		names = append(names, w.Doc)
	}
	slices.Sort(names)
	return slices.Compact(names)
}

// Read is a document as one reads it: of each field what was written last; false: it is not there.
func Read(s api.State, doc string) (api.Doc, bool) {
	l := Of(s, doc, -1)
	if len(l) == 0 {
		return api.Doc{}, false
	}
	return readOf(l), true
}

// Corpus is all documents that are there, as one reads them, in order.
func Corpus(s api.State) []api.Doc {
	l := slices.Clone(s.Live)
	slices.SortStableFunc(l, func(a, b api.Write) int { return cmp.Compare(a.Doc, b.Doc) })
	var corpus []api.Doc
	for len(l) > 0 {
		n := ofFirst(l)
		corpus = append(corpus, readOf(l[:n]))
		l = l[n:]
	}
	return corpus
}

// ofFirst is how many writes at the beginning are of the first one's document.
func ofFirst(l []api.Write) int {
	n := 0
	for n < len(l) && l[n].Doc == l[0].Doc {
		n++
	}
	return n
}

// readOf is a document of all its writes, one at least.
func readOf(l []api.Write) api.Doc {
	doc := api.Doc{Id: l[0].Doc}
	for i := range doc.Text {
		doc.Text[i] = latest(l, i+1)
	}
	return doc
}

// latest is the text that was written last into a field; empty, if none was.
func latest(l []api.Write, field int) string {
	var last api.Write
	found := false
	for _, w := range l {
		if w.Field == field && (!found || stable.Compare(w, last) >= 0) {
			last, found = w, true
		}
	}
	return last.Text
}
