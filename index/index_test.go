package index_test

import (
	"math/rand"
	"slices"
	"strconv"
	"testing"

	"scholia/api"
	"scholia/index"
)

// put puts documents that may be.
func put(t *testing.T, x *index.Index, docs ...api.Doc) {
	t.Helper()
	for _, d := range docs {
		if e := x.Put(d); e != api.OK {
			t.Fatalf("%v: error %d", d, e)
		}
	}
}

// ok tells whether what may be done was.
func ok(t *testing.T, e api.Errno) {
	t.Helper()
	if e != api.OK {
		t.Fatalf("error %d", e)
	}
}

// P21.1
func TestPutCut(t *testing.T) {
	x, m := index.New(), newModel()
	same(t, x, m)
	for _, d := range []api.Doc{doc("b", "red"), doc("a", "red fox"), doc("123456789012"), doc("\x00", "\xff"), doc("b", "hen")} {
		put(t, x, d)
		m.put(d)
		same(t, x, m)
	}
	for _, id := range []string{"", "1234567890123", "1234567890123456789012345678901234567890"} {
		if e := x.Put(doc(id, "red")); e != api.EARG {
			t.Errorf("%q: error %d", id, e)
		}
		same(t, x, m)
	}
	for _, c := range []struct {
		id    string
		there bool
	}{{"b", true}, {"b", false}, {"z", false}, {"", false}, {"a", true}, {"\x00", true}, {"123456789012", true}, {"a", false}} {
		if got := x.Cut(c.id); got != c.there {
			t.Errorf("%q: %v", c.id, got)
		}
		m.cut(c.id)
		same(t, x, m)
	}
}

// P21.1, P21.2, P21.3: the chapter's example, and what comes behind it.
func TestExample(t *testing.T) {
	x := index.New()
	put(t, x, doc("a", "red fox"))
	ok(t, x.Flush())
	put(t, x, doc("a", "red hen"))
	parts := x.Parts()
	if x.Segments() != 1 || x.Fresh() != 1 || x.Len() != 1 || len(parts) != 2 || parts[0].Size() != 1 || parts[0].Live() != 0 || parts[1].Text() != "a\nhen a\nred a\n" {
		t.Fatal(x.Segments(), x.Fresh(), x.Len(), len(parts))
	}
	ok(t, x.Compact())
	if x.Segments() != 0 || x.Fresh() != 1 {
		t.Fatal(x.Segments(), x.Fresh())
	}
	ok(t, x.Compact())
	ok(t, x.Flush())
	if x.Segments() != 1 || x.Fresh() != 0 || !x.Cut("a") || x.Cut("a") || x.Segments() != 1 || len(x.Names()) != 0 {
		t.Fatal(x.Segments(), x.Fresh(), x.Names())
	}
	ok(t, x.Flush())
	if x.Segments() != 1 {
		t.Fatal(x.Segments())
	}
	ok(t, x.Compact())
	if x.Segments() != 0 || len(x.Parts()) != 0 {
		t.Fatal(x.Segments())
	}
}

// P21.2: four segments, and one more.
func TestFan(t *testing.T) {
	x := index.New()
	for i, want := range []int{1, 2, 3, 4, 1, 2, 3, 4, 1} {
		put(t, x, doc(strconv.Itoa(i), "red"))
		ok(t, x.Flush())
		if x.Segments() != want || x.Fresh() != 0 || x.Len() != i+1 {
			t.Fatal(i, x.Segments())
		}
	}
	for range 3 {
		ok(t, x.Flush()) // none came since
	}
	if x.Segments() != 1 {
		t.Error(x.Segments())
	}
	put(t, x, doc("0", "hen"))
	if parts := x.Parts(); len(parts) != 2 || parts[0].Size() != 9 || parts[0].Live() != 8 {
		t.Error(len(parts))
	}
	ok(t, x.Compact())
	if parts := x.Parts(); x.Fresh() != 1 || len(parts) != 2 || parts[0].Size() != 8 {
		t.Error(x.Fresh(), len(parts))
	}
	for i := range 9 {
		x.Cut(strconv.Itoa(i))
	}
	for i := range 3 {
		put(t, x, doc("a", "red"))
		ok(t, x.Flush())
		if x.Cut("a"); x.Segments() != i+2 {
			t.Error(i, x.Segments())
		}
	}
	put(t, x, doc("a", "red"))
	ok(t, x.Flush())
	if x.Segments() != 1 || x.Parts()[0].Size() != 1 {
		t.Error(x.Segments())
	}
}

// P21.1 to P21.4: whatever befalls an index.
func TestAny(t *testing.T) {
	rnd := rand.New(rand.NewSource(211))
	for range 60 {
		x, m := index.New(), newModel()
		for range 60 {
			switch rnd.Intn(9) {
			case 0, 1, 2:
				d := someDoc(rnd)
				put(t, x, d)
				m.put(d)
			case 3, 4:
				id := someDoc(rnd).Id
				if got, want := x.Cut(id), m.cut(id); got != want {
					t.Fatalf("%q: %v", id, got)
				}
			case 5, 6:
				ok(t, x.Flush())
				m.flush()
			case 7:
				ok(t, x.Compact())
				m.compact()
			case 8:
				old, now := someDocs(rnd), someDocs(rnd)
				if rnd.Intn(2) == 0 {
					old = m.all()
					now = append(now, old[:len(old)/2]...)
				}
				was, is := slices.Clone(old), slices.Clone(now)
				got, e := x.Turn(old, now)
				if want := m.turn(old, now); got != want || e != api.OK {
					t.Fatalf("%v to %v: %d, not %d, error %d", old, now, got, want, e)
				}
				if !slices.Equal(old, was) || !slices.Equal(now, is) {
					t.Fatal("an argument was changed")
				}
			}
			same(t, x, m)
		}
	}
}

// P21.1
func TestTurn(t *testing.T) {
	a, b, c := doc("a", "red"), doc("b", "fox"), doc("c", "hen")
	other := doc("b", "", "fox")
	for _, q := range []struct {
		old, now []api.Doc
		count    int
		names    []string
	}{
		{nil, nil, 0, []string{"a", "b"}},
		{[]api.Doc{a, b}, []api.Doc{a, b}, 0, []string{"a", "b"}},
		{[]api.Doc{a, b}, []api.Doc{b, a}, 0, []string{"a", "b"}},
		{[]api.Doc{a, b}, nil, 2, nil},
		{[]api.Doc{a, b}, []api.Doc{b, c}, 2, []string{"b", "c"}},
		{[]api.Doc{a, b}, []api.Doc{a, other}, 1, []string{"a", "b"}},
		{[]api.Doc{c, b, a}, []api.Doc{other}, 3, []string{"b"}}, // also one that was not there
		{[]api.Doc{a, a}, []api.Doc{c}, 3, []string{"b", "c"}},
		{nil, []api.Doc{a, c, c}, 3, []string{"a", "b", "c"}},
		{[]api.Doc{other}, []api.Doc{b}, 1, []string{"a", "b"}},
		{[]api.Doc{doc(""), doc("1234567890123")}, []api.Doc{c}, 3, []string{"a", "b", "c"}},
		{[]api.Doc{doc("")}, []api.Doc{doc("")}, 0, []string{"a", "b"}},
	} {
		for _, flushed := range []bool{false, true} {
			x := index.New()
			put(t, x, a, b)
			if flushed {
				ok(t, x.Flush())
			}
			n, e := x.Turn(q.old, q.now)
			if n != q.count || e != api.OK || !slices.Equal(x.Names(), q.names) {
				t.Errorf("%v to %v: %d, error %d, %q", q.old, q.now, n, e, x.Names())
			}
		}
	}
	x := index.New()
	put(t, x, b)
	if n, e := x.Turn([]api.Doc{b}, []api.Doc{other}); n != 1 || e != api.OK {
		t.Error(n, e)
	}
	sameSegment(t, []api.Doc{other}, x.Parts()...)
	if n, e := x.Turn([]api.Doc{b}, []api.Doc{a, other, a, b}); n != 3 || e != api.OK {
		t.Error(n, e)
	}
	sameSegment(t, []api.Doc{a, other}, x.Parts()...)
}

// P21.1: the first error ends it; what was ahead of it is done.
func TestTurnErrors(t *testing.T) {
	for _, id := range []string{"", "1234567890123"} {
		x := index.New()
		put(t, x, doc("a", "red"), doc("b", "fox"))
		n, e := x.Turn([]api.Doc{doc("a", "red"), doc("b", "fox")}, []api.Doc{doc("c", "hen"), doc(id, "hen"), doc("b", "hen"), doc("d")})
		if n != 0 || e != api.EARG {
			t.Errorf("%q: %d, error %d", id, n, e)
		}
		sameSegment(t, []api.Doc{doc("b", "fox"), doc("c", "hen")}, x.Parts()...)
	}
}

// P21.3: indexes that New did not make.
func TestNone(t *testing.T) {
	for _, x := range []*index.Index{nil, new(index.Index), {}} {
		if e := x.Put(doc("a", "red")); e != api.ENIL {
			t.Error(e)
		}
		if e := x.Put(doc("")); e != api.ENIL {
			t.Error(e)
		}
		if n, e := x.Turn([]api.Doc{doc("b")}, []api.Doc{doc("a", "red"), doc("")}); n != 0 || e != api.ENIL {
			t.Error(n, e)
		}
		if x.Flush() != api.ENIL || x.Compact() != api.ENIL || x.Cut("a") {
			t.Error(x.Flush(), x.Compact(), x.Cut("a"))
		}
		if x.Parts() != nil || x.Len() != 0 || x.Segments() != 0 || x.Fresh() != 0 || x.Names() != nil {
			t.Error(x.Parts(), x.Len(), x.Segments(), x.Fresh(), x.Names())
		}
	}
}

// numbered is so many documents by rising names, from a number on.
func numbered(from, many int) []api.Doc {
	var l []api.Doc
	for i := range many {
		l = append(l, doc(strconv.Itoa(100000+from+i), "red"))
	}
	return l
}

// P21.2, P21.4: more documents than a segment may have are found, too, but can't be one.
func TestMany(t *testing.T) {
	x := index.New()
	put(t, x, numbered(0, 4096)...)
	if len(x.Parts()) != 1 {
		t.Error(len(x.Parts()))
	}
	put(t, x, numbered(4096, 1)...)
	if e := x.Flush(); e != api.EARG || x.Segments() != 0 || x.Fresh() != 4097 || x.Len() != 4097 {
		t.Error(e, x.Segments(), x.Fresh(), x.Len())
	}
	there := map[string]int{}
	for _, p := range x.Parts() {
		for _, l := range p.List("red") {
			id, _ := p.Id(l.Doc)
			there[id]++
		}
	}
	for _, d := range numbered(0, 4097) {
		if there[d.Id] != 1 {
			t.Fatal(d.Id, there[d.Id])
		}
	}
	x.Cut("100007")
	ok(t, x.Flush())
	put(t, x, doc("100007", "hen"))
	ok(t, x.Flush())
	if e := x.Compact(); e != api.EARG || x.Segments() != 2 || x.Len() != 4097 || len(x.Names()) != 4097 {
		t.Error(e, x.Segments(), x.Len())
	}
	for i := range 2 {
		put(t, x, numbered(5000+i, 1)...)
		ok(t, x.Flush())
	}
	put(t, x, numbered(6000, 2)...)
	if e := x.Flush(); e != api.EARG || x.Segments() != 4 || x.Fresh() != 2 || x.Len() != 4101 || len(x.Parts()) != 5 {
		t.Error(e, x.Segments(), x.Fresh(), x.Len())
	}
	for _, d := range numbered(0, 5) {
		x.Cut(d.Id)
	}
	ok(t, x.Flush())
	if x.Segments() != 1 || x.Fresh() != 0 || x.Len() != 4096 {
		t.Error(x.Segments(), x.Fresh(), x.Len())
	}
}

// P21.3: what is handed out is not the index's, and what is done in it later is not to be seen in what it handed out.
func TestMemory(t *testing.T) {
	x, m := index.New(), newModel()
	for _, d := range []api.Doc{doc("a", "red fox"), doc("b", "red"), doc("c", "hen")} {
		put(t, x, d)
		m.put(d)
		if d.Id == "b" {
			ok(t, x.Flush())
			m.flush()
		}
	}
	was := m.copied()
	parts := x.Parts()
	x.Cut("a")
	x.Cut("c")
	m.cut("a")
	m.cut("c")
	sameSegment(t, was.all(), parts...)
	same(t, x, m)
	for _, p := range append(parts, x.Parts()...) {
		for _, id := range []string{"a", "b", "c"} {
			p.Kill(id)
		}
	}
	same(t, x, m)
	again := x.Parts()
	for i := range again[:cap(again)] {
		again[:cap(again)][i] = nil
	}
	names := x.Names()
	for i := range names[:cap(names)] {
		names[:cap(names)][i] = "spoilt"
	}
	same(t, x, m)
	other := index.New()
	put(t, other, doc("z"))
	same(t, x, m)
}
