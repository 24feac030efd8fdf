package audit_test

import (
	"math/rand"
	"slices"
	"testing"

	"scholia/api"
	"scholia/audit"
	"scholia/coder"
	"scholia/docs"
	"scholia/dots"
	"scholia/past"
)

// peer is one that does events, and tells others.
type peer struct {
	rep, clock int
	state      api.State
	past       api.Past
}

// few is how many events a peer keeps beside removals, so that others often lack more than is kept.
const few = 5

// know takes in an event.
func (p *peer) know(e api.Event) {
	if dots.Has(p.state.Seen, e.Dot) {
		return
	}
	p.state, _ = docs.Apply(p.state, e)
	p.past = past.Trim(past.Add(p.past, e), few)
	p.clock = max(p.clock, e.Time)
}

// do makes an event of its own.
func (p *peer) do(kind int, doc string, field int) {
	of, text := field, ""
	if kind == api.Drop {
		of = -1
	} else if field > 0 {
		text = "x"
	}
	p.know(api.Event{Dot: dot(p.rep, p.state.Seen[p.rep]+1), Time: p.clock + 1, Kind: kind, Doc: doc, Field: field, Text: text, Gone: docs.Gone(docs.Of(p.state, doc, of))})
}

// hear takes in what another one has that this one lacks: the events, or all that it knows, if some of these may be missing.
func (p *peer) hear(q *peer) {
	news, ok := past.Since(q.past, p.state.Seen, api.MaxBatch)
	for _, e := range news {
		p.know(e)
	}
	if ok {
		return
	}
	other := q.past
	other.Events = slices.DeleteFunc(slices.Clone(other.Events), func(e api.Event) bool { return dots.Has(p.state.Seen, e.Dot) })
	p.past = past.Trim(past.Join(p.past, other), few)
	p.state = docs.Join(p.state, q.state)
	p.clock = max(p.clock, q.clock)
}

// P36.4: what peers come to is fine, whatever they do.
func TestSound(t *testing.T) {
	rnd := rand.New(rand.NewSource(9))
	whole, gone := 0, 0
	for round := range 80 {
		peers := []*peer{{rep: 0}, {rep: 1}, {rep: 2}, {rep: 63}}[:2+round%3]
		for range 150 {
			p, q := peers[rnd.Intn(len(peers))], peers[rnd.Intn(len(peers))]
			doc := []string{"a", "b", "c"}[rnd.Intn(3)]
			switch rnd.Intn(8) {
			case 0, 1, 2:
				p.do(api.Put, doc, rnd.Intn(5))
			case 3:
				if _, there := docs.Read(p.state, doc); there {
					p.do(api.Drop, doc, 0)
				}
			case 4, 5, 6:
				if _, ok := past.Since(q.past, p.state.Seen, 0); !ok {
					whole++
				}
				p.hear(q)
			case 7:
				stable := p.state.Seen
				for _, x := range peers {
					stable = dots.Meet(stable, x.state.Seen)
				}
				was := len(p.past.Events)
				p.past = past.Collect(p.past, stable)
				gone += was - len(p.past.Events)
			}
			for _, x := range peers {
				if l := audit.Look(x.state, x.past); len(l) > 0 || !audit.Fine(x.state, x.past) {
					t.Fatalf("%v and %v: %q", x.state, x.past, audit.Text(l))
				}
			}
			s := docs.ReadState(coder.Read(docs.Put(nil, p.state)))
			h := past.Read(coder.Read(past.Put(nil, p.past)))
			if !audit.Fine(s, h) || !docs.Same(s, p.state) || !past.Same(h, p.past) {
				t.Fatal("what was written and read is not what it was")
			}
		}
	}
	if whole < 300 || gone < 300 {
		t.Error("too few of one kind", whole, gone)
	}
}
