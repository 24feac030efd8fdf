package posting_test

import (
	"encoding/hex"
	"math/rand"
	"slices"
	"testing"

	"scholia/api"
	"scholia/coder"
	"scholia/posting"
)

func unhex(s string) []byte {
	b, err := hex.DecodeString(s)
	if err != nil {
		panic(err)
	}
	return b
}

// spot and post are short ways to write these.
func spot(field int, at ...int) api.Spot { return api.Spot{Field: field, At: at} }

func post(doc int, spots ...api.Spot) api.Posting { return api.Posting{Doc: doc, Spots: spots} }

// plain is so many postings that may be, of the documents first, first + step and so on.
func plain(many, first, step int) []api.Posting {
	var l []api.Posting
	for i := range many {
		l = append(l, post(first+i*step, spot(1+i%4, i%60)))
	}
	return l
}

// same tells whether two lists are the same, number by number.
func same(a, b []api.Posting) bool {
	return slices.EqualFunc(a, b, samePosting)
}

func samePosting(a, b api.Posting) bool {
	return a.Doc == b.Doc && slices.EqualFunc(a.Spots, b.Spots, func(s, u api.Spot) bool {
		return s.Field == u.Field && slices.Equal(s.At, u.At)
	})
}

// clone is postings in memory of their own.
func clone(l []api.Posting) []api.Posting {
	l = slices.Clone(l)
	for i := range l {
		l[i].Spots = slices.Clone(l[i].Spots)
		for k := range l[i].Spots {
			l[i].Spots[k].At = slices.Clone(l[i].Spots[k].At)
		}
	}
	return l
}

// spoil turns all that postings have, and the room behind the ends of their lists.
func spoil(l []api.Posting) {
	l = l[:cap(l)]
	for i := range l {
		spots := l[i].Spots[:cap(l[i].Spots)]
		for k := range spots {
			at := spots[k].At[:cap(spots[k].At)]
			for n := range at {
				at[n] = 99
			}
			spots[k] = spot(99, 99)
		}
		l[i] = post(99, spot(99))
	}
}

// some is postings that may be.
func some(rnd *rand.Rand, many int) []api.Posting {
	var l []api.Posting
	doc := -1
	for range rnd.Intn(many + 1) {
		doc += 1 + rnd.Intn(3)
		if rnd.Intn(20) == 0 {
			doc += rnd.Intn(1000)
		}
		p := post(doc)
		for field := 1; field <= 4; field++ {
			s := spot(field)
			for at := range 60 {
				if rnd.Intn(15) == 0 {
					s.At = append(s.At, at)
				}
			}
			if len(s.At) > 0 && rnd.Intn(2) == 0 {
				p.Spots = append(p.Spots, s)
			}
		}
		if len(p.Spots) == 0 {
			p.Spots = []api.Spot{spot(1+rnd.Intn(4), rnd.Intn(60))}
		}
		l = append(l, p)
	}
	return l
}

// written is by the words of the chapter the bytes of postings.
func written(l []api.Posting) []byte {
	b := coder.Num(nil, len(l))
	lastRun := -1
	for from := 0; from < len(l); from += 4 {
		upto := min(from+4, len(l))
		b = coder.Num(b, l[upto-1].Doc-lastRun-1)
		lastRun = l[upto-1].Doc
		var run []byte
		for i := from; i < upto; i++ {
			ahead := -1
			if i > 0 {
				ahead = l[i-1].Doc
			}
			run = coder.Num(coder.Num(run, l[i].Doc-ahead-1), len(l[i].Spots))
			for _, s := range l[i].Spots {
				run = coder.Rising(coder.Num(run, s.Field), s.At)
			}
		}
		b = coder.Text(b, string(run))
	}
	return b
}

// encode is the bytes of postings that may be.
func encode(t *testing.T, l []api.Posting) []byte {
	t.Helper()
	b, e := posting.Encode(l)
	if e != api.OK {
		t.Fatalf("%v: error %d", l, e)
	}
	return b
}

// gone is all that is left of an iterator, by Next.
func gone(it *posting.Iter) []api.Posting {
	var l []api.Posting
	for p, ok := it.Next(); ok; p, ok = it.Next() {
		l = append(l, p)
	}
	return l
}
