package audit

import (
	"slices"

	"scholia/api"
	"scholia/docs"
	"scholia/dots"
)

// ahead is what an event is held against: what is known, and the events that stand ahead of it.
type ahead struct {
	known api.Vector
	live  map[api.Dot]struct{}
	met   map[api.Dot]struct{}
	last  map[int]int // of each replica the greatest number that was met
}

// begin is what the first event is held against.
func begin(s api.State) *ahead {
	a := &ahead{known: s.Seen, live: map[api.Dot]struct{}{}, met: map[api.Dot]struct{}{}, last: map[int]int{}}
	for _, w := range s.Live {
		a.live[w.Dot] = struct{}{}
	}
	return a
}

// wrong is the kinds of what is wrong with an event, in the order in which they are told.
func (a *ahead) wrong(e api.Event) []int {
	_, twice := a.met[e.Dot]
	var kinds []int
	for _, look := range []struct {
		kind int
		is   bool
	}{
		{api.TEvent, docs.Check(e) != api.OK},
		{api.TUnknown, a.unknown(e.Dot)},
		{api.TOrder, a.behindLater(e.Dot)},
		{api.TGone, slices.ContainsFunc(e.Gone, a.unknown)},
		{api.TLive, slices.ContainsFunc(e.Gone, a.lives)},
		{api.TTwice, twice},
	} {
		if look.is {
			kinds = append(kinds, look.kind)
		}
	}
	return kinds
}

// unknown tells whether an event of that dot is not known.
func (a *ahead) unknown(d api.Dot) bool {
	return !dots.Has(a.known, d)
}

// lives tells whether a write of that dot is left.
func (a *ahead) lives(d api.Dot) bool {
	_, left := a.live[d]
	return left
}

// behindLater tells whether a later event of a dot's replica was met.
func (a *ahead) behindLater(d api.Dot) bool {
	last, some := a.last[d.Rep]
	return some && last > d.N
}

// pass takes in that an event stands ahead of all that follow.
func (a *ahead) pass(e api.Event) {
	if !a.behindLater(e.Dot) {
		a.last[e.Dot.Rep] = e.Dot.N
	}
	a.met[e.Dot] = struct{}{}
}
