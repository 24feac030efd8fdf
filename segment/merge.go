package segment

import (
	"cmp"

	"scholia/api"
	"scholia/sorted"
)

// stand is where a term stands in one document.
type stand struct {
	term string
	at   api.Posting
}

// Merge is segments as one: all documents that are there; an error: one of a name is there in two.
func Merge(segs ...*Segment) (*Segment, api.Errno) {
	names, ok := together(segs)
	if !ok {
		return nil, api.EARG
	}
	lists := make([][]stand, len(segs))
	for i, s := range segs {
		lists[i] = s.stands(func(doc int) int {
			number, _ := names.Seek(s.names[doc])
			return number
		})
	}
	return lay(names.Keys(), gathered(sorted.Merge(ahead, lists...)))
}

// together is the names that are there in segments; false: they may not be in one.
func together(segs []*Segment) (*sorted.Table[string, struct{}], bool) {
	var names sorted.Table[string, struct{}]
	for _, s := range segs {
		if s == nil {
			continue
		}
		for _, i := range s.live.List() {
			if !names.Put(s.names[i], struct{}{}) || names.Len() > maxDocs {
				return nil, false
			}
		}
	}
	return &names, true
}

// stands is where terms stand in documents that are there, term by term, each document by the number that is told of its own one.
func (s *Segment) stands(number func(doc int) int) []stand {
	var l []stand
	for _, t := range s.Terms() {
		for _, p := range t.List {
			l = append(l, stand{t.Text, api.Posting{Doc: number(p.Doc), Spots: p.Spots}})
		}
	}
	return l
}

// ahead is the order of stands: by their terms, of one term by their documents.
func ahead(a, b stand) bool {
	return cmp.Or(cmp.Compare(a.term, b.term), cmp.Compare(a.at.Doc, b.at.Doc)) < 0
}

// gathered is stands that are in order as terms.
func gathered(all []stand) []api.Term {
	var l []api.Term
	for _, x := range all {
		last := len(l) - 1
		if last < 0 || l[last].Text != x.term {
			l = append(l, api.Term{Text: x.term})
			last++
		}
		l[last].List = append(l[last].List, x.at)
	}
	return l
}
