package replica_test

import (
	"math"
	"slices"
	"testing"

	"scholia/api"
	"scholia/coder"
	"scholia/docs"
	"scholia/frame"
	"scholia/past"
	"scholia/replica"
	"scholia/wire"
)

// P25.3: the chapter's example.
func TestExample(t *testing.T) {
	a, _ := born(t, 0, 2, 60)
	b, _ := born(t, 1, 2, 60)
	put(t, a, "doc", 1, "red")
	tell(t, a, b, 1)
	for _, r := range []*replica.Replica{a, b} {
		finds(t, r, "red", "doc")
	}
	if !docs.Same(a.State(), b.State()) {
		t.Fatal(a.State(), b.State())
	}
}

// P25.3: what is known is there for good behind a Sync.
func TestSync(t *testing.T) {
	r, d := born(t, 1, 3, 60)
	put(t, r, "a", 1, "red")
	put(t, r, "b", 1, "red")
	if r.Safe() != vector() {
		t.Fatal(r.Safe())
	}
	ok(t, "Sync", r.Sync())
	if r.Safe() != vector(0, 2) || r.Stable() != vector() {
		t.Fatal(r.Safe(), r.Stable())
	}
	put(t, r, "c", 1, "red")
	if r.Safe() != vector(0, 2) {
		t.Fatal(r.Safe())
	}
	ok(t, "Crash", d.Crash(nil, -1, 0))
	o := open(t, d, 1, 3)
	if o.Safe() != vector(0, 2) || o.State().Seen != vector(0, 2) {
		t.Fatal(o.Safe())
	}
	finds(t, o, "red", "a", "b")
}

// P25.3, P25.5: what a message has, by what the other one is known to have.
func TestSend(t *testing.T) {
	a, _ := born(t, 0, 3, 200)
	b, _ := born(t, 1, 3, 200)
	same := func(got, want api.Msg) {
		t.Helper()
		if !wire.Same(got, want) {
			t.Fatalf("%v, not %v", got, want)
		}
	}
	for _, to := range []int{-1, 0, 3, 64, math.MaxInt, math.MinInt} {
		if l, e := a.Send(to); e != api.EPEER || l != nil {
			t.Fatal(to, e)
		}
	}
	m, _ := sent(t, a, 1)
	same(m, api.Msg{Kind: api.MAck, From: 0, To: 1})

	x := put(t, a, "a", 1, "red")
	if a.Safe() != vector() {
		t.Fatal(a.Safe())
	}
	m, bytes := sent(t, a, 1)
	same(m, api.Msg{Kind: api.MDelta, From: 0, To: 1, Ack: vector(1), Events: []api.Event{x}})
	if a.Safe() != vector(1) {
		t.Fatal("it told what is not there for good")
	}
	y := drop(t, a, "a")
	m, _ = sent(t, a, 1) // nobody has told that he has the first one
	same(m, api.Msg{Kind: api.MDelta, From: 0, To: 1, Ack: vector(2), Events: []api.Event{x, y}})

	// What the other one has for good is not told again.
	ok(t, "Take", b.Take(bytes))
	m = tell(t, b, a, 0)
	same(m, api.Msg{Kind: api.MAck, From: 1, To: 0, Ack: vector(1)}) // by its Ack the one that sent it has it
	m, bytes = sent(t, a, 1)
	same(m, api.Msg{Kind: api.MDelta, From: 0, To: 1, Ack: vector(2), Base: vector(1), Events: []api.Event{y}})
	ok(t, "Take", b.Take(bytes))
	tell(t, b, a, 0)
	m, _ = sent(t, a, 1)
	same(m, api.Msg{Kind: api.MAck, From: 0, To: 1, Ack: vector(2)})
	m, _ = sent(t, a, 2) // another one has not told that
	same(m, api.Msg{Kind: api.MDelta, From: 0, To: 2, Ack: vector(2), Events: []api.Event{x, y}})

	// Where some is missing, all is told.
	var l []api.Event
	for i := range 49 {
		l = append(l, put(t, a, "a", 1, long(20, i)))
	}
	m, _ = sent(t, a, 1)
	same(m, api.Msg{Kind: api.MFull, From: 0, To: 1, Ack: vector(51), State: a.State(), Floor: vector(3), Events: append([]api.Event{y}, l[1:]...)})
	if p := a.Past(); !past.SameEvents(p.Events, m.Events) || p.Floor != m.Floor {
		t.Fatal(p)
	}
}

// P25.3: at most 1024 events go at once; what comes behind them goes the next time.
func TestBatch(t *testing.T) {
	s := api.State{Seen: vector(0, 1100)}
	var p api.Past
	for i := range 1100 {
		p.Events = append(p.Events, removed(1, i+1, 1, "a"))
	}
	a := open(t, laid(t, 800, snapshot(0, 3, 0, 1, s, p)), 0, 3)
	b, _ := born(t, 2, 3, 800)
	m := tell(t, a, b, 2)
	if m.Kind != api.MDelta || !past.SameEvents(m.Events, p.Events[:1024]) || b.State().Seen != vector(0, 1024) {
		t.Fatal(len(m.Events), b.State().Seen)
	}
	tell(t, b, a, 0)
	m = tell(t, a, b, 2)
	if m.Kind != api.MDelta || m.Base != vector(0, 1024) || !past.SameEvents(m.Events, p.Events[1024:]) || b.State().Seen != vector(0, 1100) {
		t.Fatal(len(m.Events), b.State().Seen)
	}

	// A full message has no more than that.
	p.Floor = vector(0, 1)
	a = open(t, laid(t, 800, snapshot(0, 3, 0, 1, s, p)), 0, 3)
	was := seen(t, a)
	if l, e := a.Send(2); e != api.EFULL || l != nil {
		t.Fatal(e)
	}
	unchanged(t, "not sent", a, was)
}

// P25.3: messages that are refused, by the first error; nothing has changed.
func TestRefusedMessages(t *testing.T) {
	r, _ := born(t, 0, 3, 60)
	put(t, r, "a", 1, "red")
	put(t, r, "a", 2, "red")
	ok(t, "Take", r.Take(sealed(t, api.Msg{Kind: api.MDelta, From: 1, To: 0, Events: []api.Event{written(1, 2, 5, "b", "red")}})))
	was := seen(t, r)
	event := written(1, 3, 9, "c", "red")
	good := sealed(t, api.Msg{Kind: api.MDelta, From: 1, To: 0, Ack: vector(2), Base: vector(1, 2), Events: []api.Event{event}})
	refuse := func(what string, b []byte, want api.Errno) {
		t.Helper()
		for range 2 {
			refused(t, what, r.Take(b), want)
			unchanged(t, what, r, was)
		}
	}
	refuse("no bytes", nil, api.ESHORT)
	refuse("three bytes", good[:3], api.ESHORT)
	refuse("cut off", good[:len(good)-1], api.ESUM)
	for i := range good {
		b := slices.Clone(good)
		b[i] ^= 1 << (i % 8)
		refuse("turned", b, api.ESUM)
	}
	refuse("no message", frame.Seal([]byte{9}), api.EFORM)
	refuse("bytes behind it", frame.Seal(append(slices.Clone(good[4:]), 0)), api.EFORM)
	full := api.State{Seen: vector(2, 2)}
	for _, m := range []struct {
		what string
		msg  api.Msg
		want api.Errno
	}{
		{"to another one", api.Msg{Kind: api.MAck, From: 1, To: 2}, api.EPEER},
		{"to another one, of an own event", api.Msg{Kind: api.MDelta, From: 1, To: 2, Events: []api.Event{written(0, 3, 9, "c", "")}}, api.EPEER},
		{"of none of them", api.Msg{Kind: api.MAck, From: 3, To: 0}, api.EPEER},
		{"of none at all", api.Msg{Kind: api.MFull, From: 63, To: 0, State: full}, api.EPEER},
		{"an own event", api.Msg{Kind: api.MDelta, From: 1, To: 0, Events: []api.Event{written(0, 3, 9, "c", "")}}, api.EFORM},
		{"an own event behind others", api.Msg{Kind: api.MDelta, From: 2, To: 0, Events: []api.Event{event, written(0, 3, 9, "c", "")}}, api.EFORM},
		{"an own event, and early", api.Msg{Kind: api.MDelta, From: 1, To: 0, Base: vector(0, 3), Events: []api.Event{written(0, 3, 9, "c", "")}}, api.EFORM},
		{"an own event of a full one", api.Msg{Kind: api.MFull, From: 1, To: 0, State: full, Events: []api.Event{removed(0, 9, 9, "c")}}, api.EFORM},
		{"an own one in its vector", api.Msg{Kind: api.MFull, From: 1, To: 0, State: api.State{Seen: vector(3)}}, api.EFORM},
		{"early", api.Msg{Kind: api.MDelta, From: 1, To: 0, Base: vector(0, 3), Events: []api.Event{event}}, api.EEARLY},
		{"early of others", api.Msg{Kind: api.MDelta, From: 1, To: 0, Base: vector(0, 0, 1), Events: []api.Event{event}}, api.EEARLY},
		{"early of its own", api.Msg{Kind: api.MDelta, From: 1, To: 0, Base: vector(3), Events: []api.Event{event}}, api.EEARLY},
		{"early, of what is known", api.Msg{Kind: api.MDelta, From: 1, To: 0, Base: vector(0, 3), Events: []api.Event{written(1, 2, 5, "b", "red")}}, api.EEARLY},
	} {
		m.msg.Ack = vector(2)
		refuse(m.what, sealed(t, m.msg), m.want)
	}
	// None of them told that others have what is there.
	ok(t, "Sync", r.Sync())
	if m, _ := sent(t, r, 1); m.Base != vector() {
		t.Fatal(m)
	}
	ok(t, "Take", r.Take(good))
	if m, _ := sent(t, r, 1); m.Base != vector(2) {
		t.Fatal(m)
	}
}

// P25.3: of a delta what is not known is kept as one record, in its order, and is known.
func TestDelta(t *testing.T) {
	r, d := born(t, 0, 3, 60)
	own := put(t, r, "a", 1, "red")
	first := written(1, 1, 3, "b", "red")
	ok(t, "Take", r.Take(sealed(t, api.Msg{Kind: api.MDelta, From: 1, To: 0, Events: []api.Event{first}})))
	snap := snapshot(0, 3, 0, 0, api.State{}, api.Past{})
	records := [][]byte{ofTop(8), ofEvents(own), ofEvents(first)}
	holds(t, "one", d, snap, records...)
	l := []api.Event{own, written(1, 3, 20, "b", "fox", dot(1, 1)), first, removed(2, 4, 7, "a", dot(0, 1)), written(2, 6, 4, "c", "fox")}
	b := sealed(t, api.Msg{Kind: api.MDelta, From: 1, To: 0, Ack: vector(0, 3, 6), Base: vector(1), Events: l})
	for range 3 { // what comes again changes nothing
		ok(t, "Take", r.Take(b))
		holds(t, "three", d, snap, append(slices.Clone(records), ofEvents(l[1], l[3], l[4]))...)
		v := seen(t, r)
		if !docs.Same(v.state, state(t, own, first, l[1], l[3], l[4])) || !past.Same(v.past, api.Past{Events: []api.Event{own, first, l[1], l[3], l[4]}}) {
			t.Fatal(v)
		}
		if v.safe != vector() || v.next != 2 || v.top != 8 {
			t.Fatal(v)
		}
		finds(t, r, "fox", "b", "c")
		finds(t, r, "red")
	}
	// Its time is above those of all that is known.
	if x := put(t, r, "d", 1, ""); x.Time != 21 {
		t.Fatal(x)
	}
	// What is known already does not count for the clock.
	ok(t, "Take", r.Take(sealed(t, api.Msg{Kind: api.MDelta, From: 1, To: 0, Events: []api.Event{written(1, 2, 90, "b", "")}})))
	if x := put(t, r, "d", 1, ""); x.Time != 22 {
		t.Fatal(x)
	}
	// An event comes into the past just once, and the vector goes as far as it.
	ok(t, "Take", r.Take(sealed(t, api.Msg{Kind: api.MDelta, From: 2, To: 0, Events: []api.Event{written(2, 9, 30, "e", ""), written(2, 8, 40, "f", ""), written(2, 9, 50, "g", "")}})))
	if names := docs.Names(r.State()); !slices.Equal(names, []string{"b", "c", "d", "e"}) || r.State().Seen != vector(3, 3, 9) {
		t.Fatal(names)
	}
	if x := put(t, r, "d", 1, ""); x.Time != 31 {
		t.Fatal(x)
	}
}

// P25.3: of a full one state and past are joined, without what was known ahead, and kept as one record.
func TestFull(t *testing.T) {
	r, d := born(t, 0, 3, 60)
	own := put(t, r, "a", 1, "red")
	known := written(1, 1, 3, "b", "red")
	ok(t, "Take", r.Take(sealed(t, api.Msg{Kind: api.MDelta, From: 1, To: 0, Events: []api.Event{known}})))
	snap := snapshot(0, 3, 0, 0, api.State{}, api.Past{})
	records := [][]byte{ofTop(8), ofEvents(own), ofEvents(known)}

	gone := removed(1, 2, 12, "a", dot(0, 1))
	s := state(t, own, known, gone, written(2, 5, 15, "c", "fox"))
	events := []api.Event{known, gone}
	m := api.Msg{Kind: api.MFull, From: 1, To: 0, Ack: vector(1, 2, 5), State: s, Floor: vector(0, 0, 5), Events: events}
	for range 3 {
		ok(t, "Take", r.Take(sealed(t, m)))
		holds(t, "full", d, snap, append(slices.Clone(records), ofWhole(s, api.Past{Events: events, Floor: m.Floor}))...)
		v := seen(t, r)
		if !docs.Same(v.state, s) || !past.Same(v.past, api.Past{Events: []api.Event{own, known, gone}, Floor: vector(0, 0, 5)}) {
			t.Fatal(v)
		}
		finds(t, r, "fox", "c")
		finds(t, r, "red", "b")
	}
	if x := put(t, r, "a", 1, ""); x.Time != 16 { // above the writes' times
		t.Fatal(x)
	}
	// What is left of the events counts, too; what was let go of does not come back.
	ok(t, "Take", r.Take(sealed(t, api.Msg{Kind: api.MAck, From: 2, To: 0, Ack: vector(9, 9, 9)})))
	ok(t, "Take", r.Take(sealed(t, api.Msg{Kind: api.MAck, From: 1, To: 0, Ack: vector(9, 9, 9)})))
	ok(t, "Sync", r.Sync())
	if n := r.Collect(); n != 4 {
		t.Fatal(n)
	}
	ok(t, "Take", r.Take(sealed(t, m)))
	if p := r.Past(); len(p.Events) != 0 || p.Floor != vector(2, 2, 5) {
		t.Fatal(p)
	}
	late := removed(2, 6, 30, "c", dot(2, 5))
	m.State, m.Events = state(t, own, known, gone, written(2, 5, 15, "c", "fox"), late), append(events, late)
	ok(t, "Take", r.Take(sealed(t, m)))
	if p := r.Past(); !past.Same(p, api.Past{Events: []api.Event{late}, Floor: vector(2, 2, 5)}) {
		t.Fatal(p)
	}
	if x := put(t, r, "a", 1, ""); x.Time != 31 {
		t.Fatal(x)
	}
	// Behind a crash all of this is known.
	was := seen(t, r)
	ok(t, "Sync", r.Sync())
	ok(t, "Crash", d.Crash(nil, -1, 0))
	o := open(t, d, 0, 3)
	if !docs.Same(o.State(), was.state) {
		t.Fatal(o.State(), was.state)
	}
	if x := put(t, o, "a", 1, ""); x.Time != 32 {
		t.Fatal(x)
	}
}

// P25.3: a full one that just lifts the floor is kept, too; one that does nothing is not.
func TestFullFloor(t *testing.T) {
	r, d := born(t, 0, 2, 60)
	m := api.Msg{Kind: api.MFull, From: 1, To: 0}
	snap := snapshot(0, 2, 0, 0, api.State{}, api.Past{})
	ok(t, "Take", r.Take(sealed(t, m)))
	holds(t, "nothing", d, snap)
	m.Floor = vector(0, 4)
	for range 2 {
		ok(t, "Take", r.Take(sealed(t, m)))
		holds(t, "a floor", d, snap, ofWhole(api.State{}, api.Past{Floor: m.Floor}))
	}
	m.State.Seen = vector(0, 4)
	for range 2 {
		ok(t, "Take", r.Take(sealed(t, m)))
		holds(t, "a vector", d, snap, ofWhole(api.State{}, api.Past{Floor: m.Floor}), ofWhole(m.State, api.Past{Floor: m.Floor}))
	}
}

// P25.3: of 48 events that are no removals the first ones go, whatever they come by.
func TestTrim(t *testing.T) {
	r, _ := born(t, 0, 2, 200)
	gone := removed(1, 1, 1, "z")
	l := []api.Event{gone}
	for i := range 60 {
		l = append(l, written(1, i+2, 1, "a", "x"))
	}
	ok(t, "Take", r.Take(sealed(t, api.Msg{Kind: api.MDelta, From: 1, To: 0, Events: l})))
	if p := r.Past(); !past.Same(p, api.Past{Events: append([]api.Event{gone}, l[13:]...), Floor: vector(0, 13)}) {
		t.Fatal(p)
	}
	own := put(t, r, "b", 1, "")
	if p := r.Past(); len(p.Events) != 49 || p.Events[48].Dot != own.Dot || p.Floor != vector(0, 14) {
		t.Fatal(p)
	}
	other, _ := born(t, 1, 2, 200)
	ok(t, "Take", other.Take(sealed(t, api.Msg{Kind: api.MFull, From: 0, To: 1, Events: nil})))
	var more []api.Event
	s := api.State{Seen: vector(50)}
	for i := range 50 {
		more = append(more, written(0, i+1, 1, "a", "x"))
	}
	ok(t, "Take", other.Take(sealed(t, api.Msg{Kind: api.MFull, From: 0, To: 1, State: s, Events: more})))
	if p := other.Past(); !past.Same(p, api.Past{Events: more[2:], Floor: vector(2)}) {
		t.Fatal(p)
	}
}

// P25.3: a state that can't be is refused, and what has no room.
func TestTakeNoRoom(t *testing.T) {
	many := func(rep int, doc string, n int) api.State {
		s := api.State{}
		s.Seen[rep] = n
		for i := range n {
			s.Live = append(s.Live, api.Write{Dot: dot(rep, i+1), Time: 1, Doc: doc, Field: 1})
		}
		return s
	}
	r, d := born(t, 0, 3, 3000)
	ok(t, "Take", r.Take(sealed(t, api.Msg{Kind: api.MFull, From: 1, To: 0, State: many(1, "a", 4096)})))
	was := seen(t, r)
	b := sealed(t, api.Msg{Kind: api.MFull, From: 2, To: 0, Ack: vector(0, 0, 1), State: many(2, "b", 1)})
	for range 2 {
		refused(t, "too many writes", r.Take(b), api.EFULL)
		unchanged(t, "too many writes", r, was)
	}
	// One event more, and the state can't be: it is known, but neither saved nor told whole.
	ok(t, "Take", r.Take(sealed(t, api.Msg{Kind: api.MDelta, From: 2, To: 0, Events: []api.Event{written(2, 1, 1, "b", "")}})))
	was = seen(t, r)
	if len(was.state.Live) != 4097 {
		t.Fatal(len(was.state.Live))
	}
	refused(t, "Save", r.Save(), api.EFULL)
	unchanged(t, "not saved", r, was)
	for i := range 48 {
		ok(t, "Take", r.Take(sealed(t, api.Msg{Kind: api.MDelta, From: 2, To: 0, Events: []api.Event{written(2, i+2, 1, "b", "", dot(2, i+1))}})))
	}
	if l, e := r.Send(1); e != api.EFULL || l != nil {
		t.Fatal(e)
	}
	ok(t, "Sync", r.Sync())
	ok(t, "Crash", d.Crash(nil, -1, 0))
	if o := open(t, d, 0, 3); !docs.Same(o.State(), r.State()) {
		t.Fatal("it is not known behind a crash")
	}

	// A device without room.
	r, _ = born(t, 0, 3, 12)
	put(t, r, "a", 1, "red")
	was = seen(t, r)
	long := []api.Event{written(1, 1, 1, "b", long(160, 1)), written(1, 2, 1, "b", long(160, 2)), written(1, 3, 1, "b", long(160, 3))}
	for _, m := range []api.Msg{
		{Kind: api.MDelta, From: 1, To: 0, Ack: vector(1, 3), Events: long},
		{Kind: api.MFull, From: 1, To: 0, Ack: vector(1, 3), State: state(t, long...)},
	} {
		refused(t, "no room", r.Take(sealed(t, m)), api.EFULL)
		now := seen(t, r)
		if !docs.Same(now.state, was.state) || !past.Same(now.past, was.past) {
			t.Fatal(now)
		}
		if m, _ := sent(t, r, 1); m.Base != vector() {
			t.Fatal("a message that was refused counts")
		}
		finds(t, r, "x*")
	}
}

// P25.3: what is greater than the greatest device has room for.
func TestTooManyBytes(t *testing.T) {
	many := func(rep, n int) api.State {
		var s api.State
		s.Seen[rep] = n
		for i := range n {
			s.Live = append(s.Live, api.Write{Dot: dot(rep, i+1), Time: 1, Doc: "a", Field: 1, Text: long(160, i)})
		}
		return s
	}
	r, _ := born(t, 0, 3, 4096)
	was := seen(t, r)
	full := func(s api.State) []byte { return sealed(t, api.Msg{Kind: api.MFull, From: 1, To: 0, State: s}) }
	refused(t, "more bytes than a record may have", r.Take(full(many(1, 1700))), api.EARG)
	refused(t, "more bytes than a half has", r.Take(full(many(1, 1450))), api.EFULL)
	unchanged(t, "no room", r, was)
	ok(t, "Take", r.Take(full(many(1, 1300))))
	was = seen(t, r)
	refused(t, "no room for both", r.Take(full(many(2, 300))), api.EFULL)
	was.safe = was.state.Seen // ahead of that a snapshot was saved
	unchanged(t, "no room for both", r, was)
	ok(t, "Save", r.Save())
}

// P25.3: messages that mean nothing new: none of them writes anything.
func TestTakeActs(t *testing.T) {
	r, d := born(t, 0, 2, 60)
	x := written(1, 1, 1, "a", "red")
	delta := sealed(t, api.Msg{Kind: api.MDelta, From: 1, To: 0, Events: []api.Event{x}})
	full := sealed(t, api.Msg{Kind: api.MFull, From: 1, To: 0, State: state(t, x), Events: []api.Event{x}})
	ack := sealed(t, api.Msg{Kind: api.MAck, From: 1, To: 0, Ack: vector(0, 1)})
	ok(t, "Take", r.Take(delta))
	ok(t, "Sync", r.Sync())
	was := seen(t, r)
	d.Fuse(0)
	for _, b := range [][]byte{delta, full, ack} {
		ok(t, "Take", r.Take(b))
	}
	if d.Dead() {
		t.Fatal("something was written")
	}
	was.stable = vector(0, 1)
	unchanged(t, "nothing new", r, was)
}

// Whatever bytes come, Take ends, and takes just what is a message.
func TestAnyBytes(t *testing.T) {
	r, _ := born(t, 0, 2, 60)
	for i := range 3000 {
		b := coder.Num(coder.Num(nil, i%5), i%3)
		for k := range i % 40 {
			b = append(b, byte(i*k+k>>2))
		}
		if e := r.Take(b); e != api.ESUM && e != api.ESHORT {
			t.Fatalf("%x: error %d", b, e)
		}
		b = frame.Seal(b)
		_, want := wire.Decode(b)
		if e := r.Take(b); want != api.OK && e != want {
			t.Fatalf("%x: error %d, not %d", b, e, want)
		}
	}
	finds(t, r, "red")
}
