package posting

import (
	"iter"
	"math"
	"slices"

	"scholia/api"
	"scholia/coder"
)

// Iter goes through postings, run by run.
type Iter struct {
	r    *coder.In     // behind the runs that were read; it has an error, once something was read that may not be
	left int           // how many postings stand behind these
	last int           // the document with which they end
	held []api.Posting // those of the last one that were not handed on, nor passed over
}

// Open begins to go through postings.
func Open(b []byte) *Iter {
	r := coder.Read(b)
	return &Iter{r: r, left: r.Num(maxDoc + 1), last: -1}
}

// Next is the next posting; false: there is none.
func (t *Iter) Next() (api.Posting, bool) {
	return t.Seek(0)
}

// Seek is the next posting whose document is not below one; of runs that end ahead of it none is looked into; false: there is none.
func (t *Iter) Seek(doc int) (api.Posting, bool) {
	if t == nil {
		return api.Posting{}, false
	}
	if p, ok := t.take(doc); ok {
		return p, true
	}
	for run := range t.runs(doc) {
		t.held = run
		return t.take(doc)
	}
	return api.Posting{}, false
}

// take is the next one of those that are held whose document is not below one.
func (t *Iter) take(doc int) (api.Posting, bool) {
	at := slices.IndexFunc(t.held, func(p api.Posting) bool { return p.Doc >= doc })
	if at < 0 {
		t.held = nil
		return api.Posting{}, false
	}
	p := t.held[at]
	t.held = t.held[at+1:]
	return p, true
}

// runs is the runs that are left and do not end ahead of a document, one by one; behind each it may be gone on later.
func (t *Iter) runs(doc int) iter.Seq[[]api.Posting] {
	return func(yield func([]api.Posting) bool) {
		for t.left > 0 && !t.Bad() {
			run, ok := t.run(doc)
			if ok && !yield(run) {
				return
			}
		}
		if t.r.End() != api.OK {
			t.r.Fail(api.EFORM)
		}
	}
}

// run reads the next run; false: it ends ahead of a document, or may not be.
func (t *Iter) run(doc int) ([]api.Posting, bool) {
	ahead, many := t.last, min(t.left, api.Skip)
	t.last = ahead + 1 + t.r.Num(maxDoc-ahead-1)
	t.left -= many
	text := t.r.Text(math.MaxInt)
	if t.last-ahead < many {
		t.r.Fail(api.EFORM) // there is no room for so many documents
	}
	if t.Bad() || t.last < doc {
		return nil, false
	}
	l := read(text, many, ahead)
	if len(l) < many || l[many-1].Doc != t.last {
		t.r.Fail(api.EFORM)
		return nil, false
	}
	return l, true
}

// read is so many postings behind a document, whose bytes a text is; none, if it is none such.
func read(text string, many, ahead int) []api.Posting {
	r := coder.Read([]byte(text))
	l := make([]api.Posting, 0, many)
	for range many {
		p := api.Posting{Doc: ahead + 1 + r.Num(maxDoc-ahead-1)}
		for range r.Num(api.Fields) {
			p.Spots = append(p.Spots, api.Spot{Field: r.Num(api.Fields), At: r.Rising(api.MaxWords, api.MaxWords-1)})
		}
		l = append(l, p)
		ahead = p.Doc
	}
	if r.End() != api.OK || Check(l) != api.OK {
		return nil
	}
	return l
}

// Bad tells whether what was gone through is no postings' bytes, as far as it was read.
func (t *Iter) Bad() bool {
	return t == nil || t.r.Err() != api.OK
}
