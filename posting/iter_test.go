package posting_test

import (
	"bytes"
	"math"
	"math/rand"
	"slices"
	"testing"

	"scholia/api"
	"scholia/posting"
)

// none tells whether an iterator has nothing more.
func none(it *posting.Iter) bool {
	p, ok := it.Next()
	q, there := it.Seek(0)
	return !ok && !there && samePosting(p, api.Posting{}) && samePosting(q, api.Posting{})
}

// P19.2
func TestNext(t *testing.T) {
	rnd := rand.New(rand.NewSource(193))
	for many := range 14 {
		for _, l := range [][]api.Posting{plain(many, 0, 1), plain(many, 7, 5), some(rnd, many)} {
			it := posting.Open(encode(t, l))
			if it.Bad() {
				t.Error("bad")
			}
			for i, want := range l {
				if p, ok := it.Next(); !ok || !samePosting(p, want) || it.Bad() {
					t.Fatalf("%d of %v: %v, %v, %v", i, l, p, ok, it.Bad())
				}
			}
			if !none(it) || !none(it) || it.Bad() {
				t.Errorf("%v: more", l)
			}
		}
	}
}

// P19.2: one after the other, by Next and by Seek.
func TestSeek(t *testing.T) {
	rnd := rand.New(rand.NewSource(194))
	for round := range 3000 {
		l := some(rnd, 1+round%25)
		it := posting.Open(encode(t, l))
		at := 0
		for range 30 {
			doc := math.MinInt // as Next does
			if rnd.Intn(3) > 0 {
				doc = rnd.Intn(70) - 3
				if len(l) > 0 && rnd.Intn(2) == 0 {
					doc = l[rnd.Intn(len(l))].Doc + rnd.Intn(3) - 1
				}
			}
			for at < len(l) && l[at].Doc < doc {
				at++
			}
			var p api.Posting
			var ok bool
			if doc == math.MinInt && rnd.Intn(2) == 0 {
				p, ok = it.Next()
			} else {
				p, ok = it.Seek(doc)
			}
			if at == len(l) {
				if ok || !samePosting(p, api.Posting{}) {
					t.Fatalf("%v from %d on: %v", l, doc, p)
				}
				continue
			}
			if !ok || !samePosting(p, l[at]) {
				t.Fatalf("%v from %d on: %v, %v", l, doc, p, ok)
			}
			at++
		}
		if it.Bad() {
			t.Fatalf("%v: bad", l)
		}
	}
}

// P19.2: the ends of documents' numbers.
func TestSeekEnds(t *testing.T) {
	l := []api.Posting{post(0, spot(1, 0)), post(9, spot(1, 0)), post(65535, spot(1, 1))}
	for _, c := range []struct{ doc, at int }{{math.MinInt, 0}, {-1, 0}, {0, 0}, {1, 1}, {9, 1}, {10, 2}, {65534, 2}, {65535, 2}, {65536, 3}, {1 << 32, 3}, {math.MaxInt, 3}} {
		it := posting.Open(encode(t, l))
		p, ok := it.Seek(c.doc)
		if ok != (c.at < 3) || ok && !samePosting(p, l[c.at]) || it.Bad() {
			t.Errorf("from %d on: %v, %v", c.doc, p, ok)
		}
		if rest := gone(it); !same(rest, l[min(c.at+1, 3):]) || it.Bad() {
			t.Errorf("behind %d: %v", c.doc, rest)
		}
	}
	it := posting.Open(encode(t, l))
	it.Seek(math.MaxInt)
	if !none(it) || it.Bad() {
		t.Error("more")
	}
}

// P19.2: runs that end ahead of what is looked for are not looked into.
func TestSkip(t *testing.T) {
	l := plain(12, 0, 2) // runs end with 6, 14, 22
	whole := encode(t, l)
	b := slices.Clone(whole)
	b[4] = 9 // spots of the first posting
	for doc := range 25 {
		it := posting.Open(b)
		p, ok := it.Seek(doc)
		if doc <= 6 {
			if ok || !it.Bad() || !none(it) {
				t.Errorf("from %d on: %v", doc, p)
			}
			continue
		}
		want := l[min((doc+1)/2, 11)]
		if ok != (doc <= 22) || ok && !samePosting(p, want) || it.Bad() {
			t.Errorf("from %d on: %v, %v, %v", doc, p, ok, it.Bad())
		}
	}
	it := posting.Open(b)
	if p, ok := it.Next(); ok || !it.Bad() {
		t.Error(p)
	}
	if !bytes.Equal(encode(t, l), whole) {
		t.Error(l)
	}
}

// P19.2: of bytes that no postings have, all ends, and what comes is no more than what may be.
func TestBad(t *testing.T) {
	for _, s := range noBytes {
		it := posting.Open(unhex(s))
		l := gone(it)
		if !it.Bad() || !none(it) || posting.Check(l) != api.OK {
			t.Errorf("%s: %v, %v", s, l, it.Bad())
		}
		it = posting.Open(unhex(s))
		for doc := range 9 {
			it.Seek(doc)
		}
		it.Seek(math.MaxInt)
		if !none(it) {
			t.Errorf("%s: more", s)
		}
	}
	// Where a run says that it ends may be that nothing can.
	for _, s := range []string{"04" + "0214" + "0001010100" + "0001020101" + "0001030102" + "0001040103", "01" + "c10000" + "00", "01" + "8000" + "00", "0100", "0200", "0000", ""} {
		it := posting.Open(unhex(s))
		if p, ok := it.Seek(math.MaxInt); ok || !it.Bad() {
			t.Errorf("%s: %v", s, p)
		}
	}
}

// P19.2: Iters that no call made.
func TestNoIter(t *testing.T) {
	for _, it := range []*posting.Iter{nil, new(posting.Iter), {}} {
		if !none(it) || !it.Bad() {
			t.Error("more")
		}
	}
}

// P19.2: cut off anywhere the first postings come, and it is told.
func TestCut(t *testing.T) {
	l := plain(10, 3, 40)
	b := encode(t, l)
	for k := range b {
		it := posting.Open(b[:k])
		got := gone(it)
		if len(got) > len(l) || !same(got, l[:len(got)]) || !it.Bad() {
			t.Errorf("%d bytes: %v, %v", k, got, it.Bad())
		}
	}
	if it := posting.Open(append(slices.Clone(b), 0)); !same(gone(it), l) || !it.Bad() {
		t.Error("a byte behind the end")
	}
}

// P19.2: Next goes through just what Decode decodes, whatever byte is turned.
func TestTurnedIter(t *testing.T) {
	b := encode(t, plain(6, 2, 30))
	for at := range b {
		for x := 1; x < 256; x++ {
			turned := slices.Clone(b)
			turned[at] ^= byte(x)
			l, e := posting.Decode(turned)
			it := posting.Open(turned)
			got := gone(it)
			if it.Bad() != (e != api.OK) || e == api.OK && !same(l, got) || posting.Check(got) != api.OK {
				t.Fatalf("%x: %v, %v, not %v, error %d", turned, got, it.Bad(), l, e)
			}
		}
	}
}

// P19.2: what is handed in and out is not the iterator's.
func TestIterMemory(t *testing.T) {
	l := plain(9, 0, 2)
	b := encode(t, l)
	it, other := posting.Open(b), posting.Open(b)
	for i := range b[:cap(b)] {
		b[:cap(b)][i] = 0x77
	}
	for i, want := range l {
		p, ok := it.Next()
		if !ok || !samePosting(p, want) {
			t.Fatal(i, p)
		}
		spoil([]api.Posting{p})
		if q, ok := other.Seek(want.Doc - 1); !ok || !samePosting(q, want) {
			t.Fatal(i, q)
		}
	}
}
