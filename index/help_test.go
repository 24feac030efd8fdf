package index_test

import (
	"maps"
	"math/rand"
	"slices"
	"strings"
	"testing"

	"scholia/api"
	"scholia/index"
	"scholia/segment"
)

// doc is a document of a name, and of these fields' texts.
func doc(id string, texts ...string) api.Doc {
	d := api.Doc{Id: id}
	copy(d.Text[:], texts)
	return d
}

// lot is the documents of a segment that are there, and how many it has in all.
type lot struct {
	docs map[string]api.Doc
	size int
}

// model is by the words of the chapter what an index has.
type model struct {
	segs  []lot
	fresh map[string]api.Doc
}

func newModel() *model { return &model{fresh: map[string]api.Doc{}} }

// copied is a model of its own.
func (m *model) copied() *model {
	c := &model{fresh: maps.Clone(m.fresh)}
	for _, s := range m.segs {
		c.segs = append(c.segs, lot{maps.Clone(s.docs), s.size})
	}
	return c
}

func (m *model) cut(id string) bool {
	there := false
	for _, l := range append([]lot{{docs: m.fresh}}, m.segs...) {
		if _, ok := l.docs[id]; ok {
			there = true
			delete(l.docs, id)
		}
	}
	return there
}

func (m *model) put(d api.Doc) {
	m.cut(d.Id)
	m.fresh[d.Id] = d
}

// turn is how many documents went or came.
func (m *model) turn(old, now []api.Doc) int {
	n := 0
	for _, d := range old {
		if !slices.ContainsFunc(now, func(x api.Doc) bool { return x.Id == d.Id }) {
			m.cut(d.Id)
			n++
		}
	}
	for _, d := range now {
		if !slices.Contains(old, d) {
			m.put(d)
			n++
		}
	}
	return n
}

func (m *model) flush() {
	if len(m.fresh) == 0 {
		return
	}
	m.segs = append(m.segs, lot{m.fresh, len(m.fresh)})
	m.fresh = map[string]api.Doc{}
	if len(m.segs) > 4 {
		m.compact()
	}
}

func (m *model) compact() {
	all := map[string]api.Doc{}
	for _, s := range m.segs {
		maps.Copy(all, s.docs)
	}
	m.segs = nil
	if len(all) > 0 {
		m.segs = []lot{{all, len(all)}}
	}
}

// all is all documents that are there, by their names.
func (m *model) all() []api.Doc {
	l := listed(m.fresh)
	for _, s := range m.segs {
		l = append(l, listed(s.docs)...)
	}
	slices.SortFunc(l, func(a, b api.Doc) int { return strings.Compare(a.Id, b.Id) })
	return l
}

// listed is documents by their names.
func listed(docs map[string]api.Doc) []api.Doc {
	var l []api.Doc
	for _, id := range slices.Sorted(maps.Keys(docs)) {
		l = append(l, docs[id])
	}
	return l
}

// same tells whether an index is as a model of it says.
func same(t *testing.T, x *index.Index, m *model) {
	t.Helper()
	all := m.all()
	var names []string
	for _, d := range all {
		names = append(names, d.Id)
	}
	if x.Len() != len(all) || x.Segments() != len(m.segs) || x.Fresh() != len(m.fresh) || !slices.Equal(x.Names(), names) {
		t.Fatalf("%d documents %q, %d segments, %d fresh, not %q, %d, %d", x.Len(), x.Names(), x.Segments(), x.Fresh(), names, len(m.segs), len(m.fresh))
	}
	lots := m.segs
	if len(m.fresh) > 0 {
		lots = append(slices.Clone(lots), lot{m.fresh, len(m.fresh)})
	}
	parts := x.Parts()
	if len(parts) != len(lots) {
		t.Fatalf("%d parts, not %d", len(parts), len(lots))
	}
	for i, l := range lots {
		if parts[i].Size() != l.size || parts[i].Live() != len(l.docs) {
			t.Fatalf("part %d: %d of %d, not %d of %d", i, parts[i].Live(), parts[i].Size(), len(l.docs), l.size)
		}
		sameSegment(t, listed(l.docs), parts[i])
	}
	sameSegment(t, all, parts...)
}

// sameSegment tells whether what is there in segments is these documents, as they stand.
func sameSegment(t *testing.T, docs []api.Doc, segs ...*segment.Segment) {
	t.Helper()
	want, e := segment.Build(docs)
	if e != api.OK {
		t.Fatal(docs, e)
	}
	if got, e := segment.Merge(segs...); e != api.OK || string(got.Bytes()) != string(want.Bytes()) {
		t.Fatalf("%q, error %d, not %q", got.Text(), e, want.Text())
	}
}

// someDoc is a document of few names, and few words; someDocs is such ones in any order, some of one name.
func someDoc(rnd *rand.Rand) api.Doc {
	d := doc([]string{"a", "b", "c", "d", "e", "\xff", "123456789012"}[rnd.Intn(7)])
	for i := range d.Text {
		for range rnd.Intn(3) {
			d.Text[i] += []string{"red ", "fox ", "foxes ", "hen ", "the "}[rnd.Intn(5)]
		}
	}
	return d
}

func someDocs(rnd *rand.Rand) []api.Doc {
	var l []api.Doc
	for range rnd.Intn(8) {
		l = append(l, someDoc(rnd))
	}
	return l
}
