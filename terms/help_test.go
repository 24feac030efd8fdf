package terms_test

import (
	"math/rand"
	"slices"
	"strings"

	"scholia/api"
)

// spot, post and term are short ways to write these.
func spot(field int, at ...int) api.Spot { return api.Spot{Field: field, At: at} }

func post(doc int, spots ...api.Spot) api.Posting { return api.Posting{Doc: doc, Spots: spots} }

func term(text string, list ...api.Posting) api.Term { return api.Term{Text: text, List: list} }

// doc is one of these fields' texts.
func doc(texts ...string) api.Doc {
	d := api.Doc{Id: "a"}
	copy(d.Text[:], texts)
	return d
}

// samePostings and sameTerms tell whether two lists are the same, number by number.
func samePostings(a, b []api.Posting) bool {
	if len(a) != len(b) {
		return false
	}
	for i := range a {
		if a[i].Doc != b[i].Doc || len(a[i].Spots) != len(b[i].Spots) {
			return false
		}
		for k, s := range a[i].Spots {
			if s.Field != b[i].Spots[k].Field || !slices.Equal(s.At, b[i].Spots[k].At) {
				return false
			}
		}
	}
	return true
}

func sameTerms(a, b []api.Term) bool {
	if len(a) != len(b) {
		return false
	}
	for i := range a {
		if a[i].Text != b[i].Text || !samePostings(a[i].List, b[i].List) {
			return false
		}
	}
	return true
}

// clone is terms in memory of their own, with all that stands behind the ends of their lists.
func clone(l []api.Term) []api.Term {
	all := slices.Clone(l[:cap(l)])
	for i := range all {
		list := slices.Clone(all[i].List[:cap(all[i].List)])
		for k := range list {
			spots := slices.Clone(list[k].Spots[:cap(list[k].Spots)])
			for n := range spots {
				spots[n].At = slices.Clone(spots[n].At[:cap(spots[n].At)])[:len(spots[n].At)]
			}
			list[k].Spots = spots[:len(list[k].Spots)]
		}
		all[i].List = list[:len(all[i].List)]
	}
	return all[:len(l)]
}

// whole is terms with all that stands behind the ends of their lists as if it were of them.
func whole(l []api.Term) []api.Term {
	all := clone(l)
	all = all[:cap(l)]
	for i := range all {
		list := all[i].List[:cap(all[i].List)]
		for k := range list {
			spots := list[k].Spots[:cap(list[k].Spots)]
			for n := range spots {
				spots[n].At = spots[n].At[:cap(spots[n].At)]
			}
			list[k].Spots = spots
		}
		all[i].List = list
	}
	return all
}

// roomy is terms with room behind the ends of all their lists, in which something stands.
func roomy(l []api.Term) []api.Term {
	all := append(clone(l), term("room", post(7, spot(7, 7))), term("zz"))
	for i := range all {
		list := append(all[i].List, post(8, spot(8, 8)), post(9))
		for k := range list {
			spots := append(list[k].Spots, spot(5, 5), spot(6))
			for n := range spots {
				at := append(spots[n].At, 77, 78)
				spots[n].At = at[: len(at)-2 : len(at)]
			}
			list[k].Spots = spots[: len(spots)-2 : len(spots)]
		}
		all[i].List = list[: len(list)-2 : len(list)]
	}
	return all[: len(all)-2 : len(all)]
}

// spoil turns all that terms have, and the room behind the ends of all their lists.
func spoil(l []api.Term) {
	l = l[:cap(l)]
	for i := range l {
		spoilPostings(l[i].List)
		l[i] = term("spoilt", post(99))
	}
}

func spoilPostings(l []api.Posting) {
	l = l[:cap(l)]
	for i := range l {
		spots := l[i].Spots[:cap(l[i].Spots)]
		for k := range spots {
			at := spots[k].At[:cap(spots[k].At)]
			for n := range at {
				at[n] = 99
			}
			spots[k] = spot(99, 99)
		}
		l[i] = post(99, spot(99))
	}
}

// someText is a text of few words, some of them with ends, and of marks.
func someText(rnd *rand.Rand) string {
	pieces := []string{"red", "Red", "foxes", "fox", "running", "run", "kindness", "the", "and", "A", "é", "École", "7", "x7s", "ab", "\xff", "€", ",", strings.Repeat("long", 5), strings.Repeat("long", 5) + "x", "ponies", "pony"}
	var b strings.Builder
	for range rnd.Intn(30) {
		b.WriteString(pieces[rnd.Intn(len(pieces))])
		if rnd.Intn(8) > 0 {
			b.WriteByte(' ')
		}
	}
	if rnd.Intn(20) == 0 {
		b.WriteString(strings.Repeat("hen of ", 20+rnd.Intn(40)))
	}
	return b.String()
}

// someDoc is one of such texts.
func someDoc(rnd *rand.Rand) api.Doc {
	var d api.Doc
	for i := range d.Text {
		if rnd.Intn(3) > 0 {
			d.Text[i] = someText(rnd)
		}
	}
	return d
}
