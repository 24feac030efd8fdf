package replica

import (
	"slices"

	"scholia/api"
	"scholia/docs"
	"scholia/dots"
	"scholia/past"
	"scholia/stable"
)

// known is what a replica knows. What comes behind it is made anew, so that it stays as it is where that can't be kept.
type known struct {
	state api.State
	past  api.Past
	clock int // the latest time that it met
	top   int // up to which number its own events may be
}

// has tells whether an event is known.
func (k known) has(e api.Event) bool {
	return dots.Has(k.state.Seen, e.Dot)
}

// behind is what is known behind events, one behind the other.
func (k known) behind(l ...api.Event) known {
	for _, e := range l {
		if k.has(e) {
			continue
		}
		k.state, _ = docs.Apply(k.state, e)
		k.past = past.Trim(past.Add(k.past, e), api.MaxEvents)
		k.clock = max(k.clock, e.Time)
	}
	return k
}

// joined is what is known behind what another one knows.
func (k known) joined(s api.State, p api.Past) known {
	// What is known and let go of does not come back.
	p.Events = slices.DeleteFunc(slices.Clone(p.Events), k.has)
	for _, e := range p.Events {
		k.clock = max(k.clock, e.Time)
	}
	k.clock = max(k.clock, stable.Latest(s.Live))
	k.past = past.Trim(past.Join(k.past, p), api.MaxEvents)
	k.state = docs.Join(k.state, s)
	return k
}

// same tells whether as much is known of documents and events.
func (k known) same(other known) bool {
	return docs.Same(k.state, other.state) && past.Same(k.past, other.past)
}

// copied is the same in new memory.
func (k known) copied() known {
	k.state.Live = slices.Clone(k.state.Live)
	k.past = past.Collect(k.past, api.Vector{}) // of nothing: all stays
	return k
}

// sound tells whether a replica of that number may know this: it has no event beyond its top, and met all times of its writes.
func (k known) sound(self int) bool {
	return k.state.Seen[self] <= k.top && stable.Latest(k.state.Live) <= k.clock
}
