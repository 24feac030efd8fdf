package export

import (
	"iter"
	"strings"

	"scholia/api"
	"scholia/docs"
)

// Read is the documents of lines; an error: which line is none (from 1 on).
func Read(s string) ([]api.Doc, int, api.Errno) {
	if len(s) > maxBytes {
		return nil, 0, api.ELONG
	}
	var r reading
	for n, line := range lines(s) {
		if !r.take(line) {
			return nil, n, api.ELINE
		}
	}
	return r.docs, 0, api.OK
}

// lines is a text's lines, each with its number (from 1 on) and its end, if it has one.
func lines(s string) iter.Seq2[int, string] {
	return func(yield func(n int, line string) bool) {
		rest := s
		for n := 1; rest != ""; n++ {
			end := len(rest)
			if at := strings.IndexByte(rest, '\n'); at >= 0 {
				end = at + 1
			}
			if !yield(n, rest[:end]) {
				return
			}
			rest = rest[end:]
		}
	}
}

// reading is the documents of the lines that were read.
type reading struct {
	docs []api.Doc
	last int // which field of the last document was read last, as lines of less may not follow
}

// take reads one line more; false: it can't stand there.
func (r *reading) take(line string) bool {
	line, ended := strings.CutSuffix(line, "\n")
	if !ended {
		return false
	}
	for i, begin := range begins {
		if rest, so := strings.CutPrefix(line, begin); so {
			return i == 0 && r.document(rest) || i > 0 && r.field(i, rest)
		}
	}
	return false
}

// document begins a document; false: that is no name.
func (r *reading) document(name string) bool {
	r.docs, r.last = append(r.docs, api.Doc{Id: name}), 0
	return docs.Name(name)
}

// field reads a field of the last document; false: it can't stand there.
func (r *reading) field(field int, s string) bool {
	text, so := shown(s)
	if !so || text == "" || docs.Text(field, text) != api.OK || len(r.docs) == 0 || field <= r.last {
		return false
	}
	r.docs[len(r.docs)-1].Text[field-1] = text
	r.last = field
	return true
}

// shown is the text of which hidden makes that; false: there is none.
func shown(s string) (string, bool) {
	var b strings.Builder
	for {
		plain, behind, more := strings.Cut(s, `\`)
		b.WriteString(plain)
		if !more {
			return b.String(), true
		}
		switch {
		case strings.HasPrefix(behind, `n`):
			b.WriteByte('\n')
		case strings.HasPrefix(behind, `\`):
			b.WriteByte('\\')
		default:
			return "", false
		}
		s = behind[1:]
	}
}
