package segment_test

import (
	"math/rand"
	"slices"
	"testing"

	"scholia/api"
	"scholia/coder"
	"scholia/segment"
)

// P20.3: documents that lie in several segments, with others that are there no more.
func TestMerge(t *testing.T) {
	rnd := rand.New(rand.NewSource(202))
	for round := range 200 {
		docs := someDocs(rnd, 16)
		lots := make([][]api.Doc, 1+round%5)
		for _, d := range docs {
			i := rnd.Intn(len(lots))
			lots[i] = append(lots[i], d)
		}
		segs := make([]*segment.Segment, len(lots))
		gone := make([]map[string]bool, len(lots))
		for i := range lots {
			gone[i] = map[string]bool{}
			for _, d := range someDocs(rnd, 6) { // of names that are there in others, too
				if !slices.ContainsFunc(lots[i], func(x api.Doc) bool { return x.Id == d.Id }) {
					lots[i] = append(lots[i], d)
					gone[i][d.Id] = true
				}
			}
			lots[i] = inOrder(lots[i])
			segs[i] = build(t, lots[i])
			for id := range gone[i] {
				segs[i].Kill(id)
			}
		}
		m, e := segment.Merge(segs...)
		if e != api.OK {
			t.Fatalf("%v: error %d", lots, e)
		}
		same(t, m, docs, nil)
		for i := range segs {
			same(t, segs[i], lots[i], gone[i])
		}
		if len(docs) > 0 { // and no longer with it
			m.Kill(docs[0].Id)
			for i := range segs {
				same(t, segs[i], lots[i], gone[i])
			}
		}
	}
}

// P20.3
func TestMergeFew(t *testing.T) {
	m, e := segment.Merge()
	if e != api.OK {
		t.Fatal(e)
	}
	same(t, m, nil, nil)
	docs := []api.Doc{doc("a", "red fox"), doc("b", "red hen")}
	one := build(t, docs)
	one.Kill("a")
	m, e = segment.Merge(nil, one, new(segment.Segment))
	if e != api.OK {
		t.Fatal(e)
	}
	same(t, m, docs[1:], nil)
	one.Kill("b")
	m, e = segment.Merge(one, one)
	if e != api.OK {
		t.Fatal(e)
	}
	same(t, m, nil, nil)
}

// P20.3
func TestMergeErrors(t *testing.T) {
	one, two := build(t, []api.Doc{doc("a", "red"), doc("b", "fox")}), build(t, []api.Doc{doc("b", "fox"), doc("c", "red")})
	for _, segs := range [][]*segment.Segment{{one, two}, {two, one}, {one, one}, {nil, two, nil, one}, {one, two, build(t, nil)}} {
		if m, e := segment.Merge(segs...); m != nil || e != api.EARG {
			t.Errorf("error %d", e)
		}
	}
	for _, text := range []string{"", "hen"} { // documents that have no term in common
		if m, e := segment.Merge(one, build(t, []api.Doc{doc("b", text)})); m != nil || e != api.EARG {
			t.Errorf("error %d", e)
		}
	}
	two.Kill("b")
	if m, e := segment.Merge(one, two); e != api.OK || m.Text() != "a\nb\nc\nfox b\nred a c\n" {
		t.Error(m.Text(), e)
	}
	all := numbered(4097)
	lower, upper := build(t, all[:4000]), build(t, all[4000:])
	if m, e := segment.Merge(upper, lower); m != nil || e != api.EARG {
		t.Errorf("error %d", e)
	}
	lower.Kill(all[7].Id)
	m, e := segment.Merge(upper, lower)
	if e != api.OK {
		t.Fatal(e)
	}
	if string(m.Bytes()) != string(build(t, slices.Delete(slices.Clone(all), 7, 8)).Bytes()) {
		t.Error(m.Size())
	}
}

// P20.3: what was read is merged just so, also words that no document's terms would be.
func TestMergeRead(t *testing.T) {
	one := segment.Read(coder.Read(unhex("01" + "0161" + "010100" + "02" + "000320410a" + "0003746865" + "08" + "0100050001010101" + "08" + "010005000104013b")))
	if one == nil {
		t.Fatal("one")
	}
	m, e := segment.Merge(one, build(t, []api.Doc{doc("0", "fox")}))
	if e != api.OK || m.Text() != "0\na\n A\n a\nfox 0\nthe a\n" {
		t.Errorf("%q, error %d", m.Text(), e)
	}
	if l := m.At("the", 1); len(l) != 1 || l[0].Field != 4 || !slices.Equal(l[0].At, []int{59}) {
		t.Error(l)
	}
}
