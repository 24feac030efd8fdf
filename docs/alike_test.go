package docs_test

import (
	"math/rand"
	"slices"
	"testing"

	"scholia/api"
	"scholia/coder"
	"scholia/docs"
	"scholia/dots"
)

// peer is one that does events, and takes in those of others.
type peer struct {
	rep    int
	clock  int
	state  api.State
	events []api.Event // all that it knows, as they came
}

// do makes an event of its own, which takes away what it knows of a document, or of a field of it.
func (p *peer) do(kind int, doc string, field int, text string) api.Event {
	of := field
	if kind == api.Drop {
		of = -1
	}
	e := api.Event{Dot: dot(p.rep, p.state.Seen[p.rep]+1), Time: p.clock + 1, Kind: kind, Doc: doc, Field: field, Text: text, Gone: docs.Gone(docs.Of(p.state, doc, of))}
	p.know(e)
	return e
}

// know applies an event.
func (p *peer) know(e api.Event) {
	next, wrong := docs.Apply(p.state, e)
	if wrong != api.OK {
		panic(wrong)
	}
	if !dots.Has(p.state.Seen, e.Dot) {
		p.events = append(p.events, e)
		p.clock = max(p.clock, e.Time)
	}
	p.state = next
}

// join takes in all that another one knows.
func (p *peer) join(q *peer) {
	p.state = docs.Join(p.state, q.state)
	p.events = union(p.events, q.events)
	p.clock = max(p.clock, q.clock)
}

// union is events of one list, and of another one those that it has not.
func union(a, b []api.Event) []api.Event {
	all := slices.Clone(a)
	for _, e := range b {
		if !slices.ContainsFunc(a, func(x api.Event) bool { return x.Dot == e.Dot }) {
			all = append(all, e)
		}
	}
	return all
}

// step is something that befalls one of some peers.
func step(rnd *rand.Rand, peers []*peer) {
	p, q := peers[rnd.Intn(len(peers))], peers[rnd.Intn(len(peers))]
	doc := someNames[rnd.Intn(len(someNames))]
	switch k := rnd.Intn(20); {
	case k < 9:
		field := rnd.Intn(5)
		text := ""
		if field > 0 {
			text = someTexts[rnd.Intn(len(someTexts))]
		}
		p.do(api.Put, doc, field, text)
	case k < 12:
		p.do(api.Drop, doc, 0, "")
	case k < 17: // some of another one's events, behind what these knew
		n := rnd.Intn(len(q.events) + 1)
		for _, e := range q.events[:n] {
			p.know(e)
		}
	default:
		p.join(q)
	}
}

// P12.5: what peers come to is what the events make that they know.
func TestAlike(t *testing.T) {
	rnd := rand.New(rand.NewSource(31))
	shared := 0
	for round := range 60 {
		peers := []*peer{{rep: 0}, {rep: 1}, {rep: 7}, {rep: 63}}[:2+round%3]
		for range 80 {
			step(rnd, peers)
			for _, p := range peers {
				if !docs.Can(p.state) || !slices.Equal(p.state.Live, made(p.events)) {
					t.Fatalf("%v is not what %v make", p.state.Live, p.events)
				}
				for _, e := range p.events {
					if !dots.Has(p.state.Seen, e.Dot) {
						t.Fatalf("%v is not known", e.Dot)
					}
				}
				for _, q := range peers {
					if p != q && p.state.Seen == q.state.Seen {
						shared++
						if !docs.Same(p.state, q.state) || !slices.Equal(docs.Corpus(p.state), docs.Corpus(q.state)) {
							t.Fatalf("of one vector: %v and %v", p.state, q.state)
						}
					}
				}
			}
			p := peers[rnd.Intn(len(peers))]
			r := coder.Read(docs.Put(nil, p.state))
			if got := docs.ReadState(r); !sameState(got, p.state) || r.End() != api.OK {
				t.Fatalf("%v is read as %v", p.state, got)
			}
		}
	}
	if shared < 100 {
		t.Error("too few of one vector", shared)
	}
}

// P12.6: however such states are joined.
func TestOnce(t *testing.T) {
	rnd := rand.New(rand.NewSource(32))
	for range 60 {
		peers := []*peer{{rep: 0}, {rep: 1}, {rep: 2}, {rep: 40}}
		for range 60 {
			step(rnd, peers)
		}
		a, b, c, d := peers[0].state, peers[1].state, peers[2].state, peers[3].state
		want := docs.Join(docs.Join(docs.Join(a, b), c), d)
		all := union(union(peers[0].events, peers[1].events), union(peers[2].events, peers[3].events))
		if !docs.Can(want) || !slices.Equal(want.Live, made(all)) {
			t.Fatalf("%v is not what %v make", want.Live, all)
		}
		for i, got := range []api.State{
			docs.Join(a, docs.Join(b, docs.Join(c, d))),
			docs.Join(docs.Join(d, c), docs.Join(b, a)),
			docs.Join(docs.Join(a, c), docs.Join(b, d)),
			docs.Join(docs.Join(docs.Join(b, d), docs.Join(b, a)), docs.Join(c, b)),
			docs.Join(want, a), docs.Join(b, want), docs.Join(want, want),
			docs.Join(want, api.State{}), docs.Join(api.State{}, want),
		} {
			if !sameState(got, want) {
				t.Fatalf("%d: %v, not %v", i, got, want)
			}
		}
		if !sameState(docs.Join(a, b), docs.Join(b, a)) || !sameState(docs.Join(a, a), a) {
			t.Fatal("the order tells")
		}
	}
}

// P12.3, P12.5: one takes a away, another one who did not know writes to it: it is there, with that alone.
func TestDropAndPut(t *testing.T) {
	p, q := &peer{rep: 0}, &peer{rep: 1}
	p.do(api.Put, "a", 1, "title")
	p.do(api.Put, "a", 3, "tag")
	q.join(p)
	p.do(api.Drop, "a", 0, "")
	q.do(api.Put, "a", 2, "body")
	p.join(q)
	q.join(p)
	for _, x := range []*peer{p, q} {
		if got, ok := docs.Read(x.state, "a"); !ok || got != (api.Doc{Id: "a", Text: [4]string{1: "body"}}) {
			t.Error(got, ok)
		}
	}
	// Both write at once: the later one is read, of one time the greater replica's; both are there.
	p.do(api.Put, "b", 1, "of 0")
	q.do(api.Put, "b", 1, "of 1")
	p.join(q)
	if got, _ := docs.Read(p.state, "b"); got.Text[0] != "of 1" || len(docs.Of(p.state, "b", 1)) != 2 {
		t.Error(got)
	}
	p.do(api.Put, "b", 1, "behind both")
	q.join(p)
	if got, _ := docs.Read(q.state, "b"); got.Text[0] != "behind both" || len(docs.Of(q.state, "b", 1)) != 1 {
		t.Error(got)
	}
}
