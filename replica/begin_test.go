package replica_test

import (
	"math"
	"slices"
	"testing"

	"scholia/api"
	"scholia/docs"
	"scholia/journal"
	"scholia/pages"
	"scholia/past"
	"scholia/replica"
)

// P25.1: which replicas there may be.
func TestArgs(t *testing.T) {
	d := device(t, 20)
	for _, x := range [][2]int{{0, 1}, {0, 0}, {0, -1}, {0, 65}, {-1, 2}, {2, 2}, {64, 64}, {0, math.MaxInt}, {0, math.MinInt}, {math.MinInt, 2}, {math.MaxInt, math.MaxInt}} {
		for _, d := range []*pages.Disk{d, nil, {}} { // ahead of all that a device may tell
			r, e := replica.New(d, x[0], x[1])
			o, e2 := replica.Open(d, x[0], x[1])
			if r != nil || o != nil || e != api.EARG || e2 != api.EARG {
				t.Errorf("%v: %d, %d", x, e, e2)
			}
		}
	}
	if len(d.Loose()) != 0 {
		t.Error("something was written")
	}
	for _, x := range [][2]int{{0, 2}, {1, 2}, {0, 64}, {63, 64}} {
		born(t, x[0], x[1], 20)
	}
}

// P25.1: what the journal tells of a device.
func TestDevices(t *testing.T) {
	dead := device(t, 20)
	dead.Fuse(0)
	dead.Sync()
	for _, x := range []struct {
		d            *pages.Disk
		formed, open api.Errno
	}{
		{nil, api.ENIL, api.ENIL},
		{new(pages.Disk), api.ENIL, api.ENIL},
		{device(t, 7), api.EARG, api.EFORM},
		{dead, api.EDEAD, api.EDEAD},
	} {
		r, e := replica.New(x.d, 0, 2)
		o, e2 := replica.Open(x.d, 0, 2)
		if r != nil || o != nil || e != x.formed || e2 != x.open {
			t.Errorf("%d, %d; not %d, %d", e, e2, x.formed, x.open)
		}
	}
	if r, e := replica.Open(device(t, 20), 0, 2); r != nil || e != api.EFORM {
		t.Error("of a device without a log", e)
	}
}

// P25.1: what a new replica is, and what its device has.
func TestNew(t *testing.T) {
	r, d := born(t, 1, 3, 8)
	want := view{next: 1}
	unchanged(t, "new", r, want)
	finds(t, r, "red")
	holds(t, "new", d, snapshot(1, 3, 0, 0, api.State{}, api.Past{}))
	holds(t, "new", d, []byte{1, 3, 0, 0, 0, 0, 0, 0})
	unchanged(t, "opened", open(t, d, 1, 3), want)

	// Whatever is there: a device that was another one's.
	put(t, r, "a", 1, "red")
	ok(t, "Sync", r.Sync())
	again, e := replica.New(d, 2, 4)
	ok(t, "New", e)
	unchanged(t, "new", again, want)
	holds(t, "again", d, snapshot(2, 4, 0, 0, api.State{}, api.Past{}))
}

// P25.1: a replica that is opened knows what it knew, and all of it is there for good.
func TestOpen(t *testing.T) {
	r, d := born(t, 0, 2, 60)
	other, _ := born(t, 1, 2, 60)
	put(t, other, "b", 2, "blue hen")
	put(t, other, "b", 3, "hen")
	tell(t, other, r, 0)
	tell(t, r, other, 1)
	tell(t, other, r, 0)
	put(t, r, "a", 1, "red fox")
	put(t, r, "b", 2, "red hen")
	drop(t, r, "a")
	ok(t, "Flush", r.Flush())
	was := seen(t, r)
	if was.stable == vector() || was.segments != 1 {
		t.Fatal(was)
	}
	ok(t, "Crash", d.Crash(d.Loose(), -1, 0))
	o := open(t, d, 0, 2)
	now := seen(t, o)
	if !docs.Same(now.state, was.state) || !past.Same(now.past, was.past) {
		t.Fatalf("%v, not %v", now, was)
	}
	if now.safe != was.state.Seen || now.stable != vector() || now.segments != 0 || now.next != 9 || now.top != 8 {
		t.Fatal(now)
	}
	finds(t, o, "red", "b")
	finds(t, o, "fox")
	// The clock goes on, too.
	if x := put(t, o, "c", 1, ""); x.Dot != dot(0, 9) || x.Time != 6 {
		t.Fatal(x)
	}
}

// P25.1: what snapshots and records say.
func TestSays(t *testing.T) {
	events := []api.Event{written(1, 1, 5, "a", "red"), written(0, 3, 7, "b", "blue"), removed(1, 2, 9, "b", dot(0, 3))}
	s := state(t, events...)
	p := api.Past{Events: events[1:], Floor: vector(0, 1)}
	for what, x := range map[string]struct {
		records  [][]byte
		docs     []string
		seen     api.Vector
		top      int
		time     int
		events   []api.Event
		floor    api.Vector
		segments int
	}{
		"a snapshot":     {nil, []string{"a"}, vector(3, 2), 6, 21, p.Events, p.Floor, 0},
		"a top":          {[][]byte{ofTop(14)}, []string{"a"}, vector(3, 2), 14, 21, p.Events, p.Floor, 0},
		"events":         {[][]byte{ofEvents(written(0, 5, 22, "c", "x"), written(2, 9, 4, "d", "x"))}, []string{"a", "c", "d"}, vector(5, 2, 9), 6, 23, append(slices.Clone(p.Events), written(0, 5, 22, "c", "x"), written(2, 9, 4, "d", "x")), p.Floor, 0},
		"known ones":     {[][]byte{ofEvents(written(0, 2, 99, "c", "x"), events[0])}, []string{"a"}, vector(3, 2), 6, 21, p.Events, p.Floor, 0},
		"no events":      {[][]byte{ofEvents()}, []string{"a"}, vector(3, 2), 6, 21, p.Events, p.Floor, 0},
		"a whole":        {[][]byte{ofWhole(state(t, written(2, 1, 30, "e", "x")), api.Past{Events: []api.Event{written(2, 1, 30, "e", "x"), events[0]}, Floor: vector(1)})}, []string{"a", "e"}, vector(3, 2, 1), 6, 31, append(slices.Clone(p.Events), written(2, 1, 30, "e", "x")), vector(1, 1), 0},
		"a whole's past": {[][]byte{ofWhole(state(t, written(2, 1, 3, "e", "x")), api.Past{Events: []api.Event{removed(2, 2, 40, "f")}})}, []string{"a", "e"}, vector(3, 2, 1), 6, 41, append(slices.Clone(p.Events), removed(2, 2, 40, "f")), vector(0, 1), 0},
	} {
		r := open(t, laid(t, 60, snapshot(0, 3, 6, 20, s, p), x.records...), 0, 3)
		v := seen(t, r)
		if !slices.Equal(docs.Names(v.state), x.docs) || v.state.Seen != x.seen || v.safe != x.seen {
			t.Errorf("%s: %v", what, v)
		}
		if !past.Same(v.past, api.Past{Events: x.events, Floor: x.floor}) {
			t.Errorf("%s: %v", what, v.past)
		}
		if v.top != x.top || v.next != x.top+1 || v.segments != x.segments || v.stable != vector() {
			t.Errorf("%s: %v", what, v)
		}
		if e := put(t, r, "z", 1, ""); e.Time != x.time || e.Dot != dot(0, x.top+1) {
			t.Errorf("%s: %v", what, e)
		}
	}
}

// P25.1: snapshots and records that are none of such a replica.
func TestForeign(t *testing.T) {
	s := state(t, written(0, 1, 5, "a", "red"), written(1, 1, 6, "b", "red"))
	p := api.Past{Events: []api.Event{written(1, 1, 6, "b", "red")}, Floor: vector(1)}
	good := snapshot(0, 2, 8, 6, s, p)
	open(t, laid(t, 60, good, ofTop(16), ofEvents(written(0, 9, 7, "c", "")), ofWhole(s, p)), 0, 2)
	bad := func(what string, snap []byte, records ...[]byte) {
		t.Helper()
		r, e := replica.Open(laid(t, 60, snap, records...), 0, 2)
		if r != nil || e != api.EFORM {
			t.Errorf("%s: error %d", what, e)
		}
	}
	bad("of no byte", nil)
	bad("another one's", snapshot(1, 2, 8, 6, s, p))
	bad("one of more", snapshot(0, 3, 8, 6, s, p))
	bad("bytes behind it", append(slices.Clone(good), 0))
	for i := range good {
		bad("cut off", good[:i])
	}
	bad("a top above all", snapshot(0, 2, 1<<30+1, 6, s, p))
	bad("a time above all", snapshot(0, 2, 8, 1<<40+1, s, p))
	bad("an own event above the top", snapshot(0, 2, 0, 6, s, p))
	bad("a write behind the clock", snapshot(0, 2, 8, 5, s, p))
	for what, b := range map[string][]byte{
		"no byte of it":        {4},
		"of kind 0":            {0},
		"of kind 0, and more":  {0, 0},
		"of kind 4":            {4, 0},
		"of no kind":           {255},
		"a kind alone":         {1},
		"a top alone":          {2},
		"bytes behind events":  append(ofEvents(written(1, 2, 7, "c", "")), 0),
		"bytes behind a top":   append(ofTop(16), 0),
		"bytes behind a whole": append(ofWhole(s, p), 0),
		"a greater top":        ofTop(1<<30 + 1),
		"a top that fell":      ofTop(0),
		"an event that is cut": ofEvents(written(1, 2, 7, "c", "red"))[:8],
		"a whole that is cut":  ofWhole(s, p)[:9],
		"a state alone":        ofWhole(s, p)[:len(docs.Put([]byte{3}, s))],
		"an own event":         ofEvents(written(0, 9, 7, "c", "")),
	} {
		bad(what, good, b)
		bad(what, good, ofTop(8), b, ofTop(16))
	}
}

// P25.1, P4: also a past of more events than a message, or a past that is read, may have, is there behind a crash.
func TestManyRemovals(t *testing.T) {
	s := api.State{Seen: vector(0, 4090)}
	p := api.Past{Floor: vector(0, 1)}
	for i := range 4090 {
		p.Events = append(p.Events, removed(1, i+1, 1, "a"))
	}
	d := laid(t, 1400, snapshot(0, 2, 0, 1, s, p))
	r := open(t, d, 0, 2)
	for range 12 {
		put(t, r, "a", 1, "")
		drop(t, r, "a")
	}
	ok(t, "Save", r.Save())
	if n := past.Drops(r.Past()); n != 4102 {
		t.Fatal(n)
	}
	ok(t, "Crash", d.Crash(nil, -1, 0))
	o := open(t, d, 0, 2)
	if !past.Same(o.Past(), r.Past()) || !docs.Same(o.State(), r.State()) {
		t.Fatal("it does not know what it knew")
	}
	// That is more than a message may have, where all of it is to be told.
	if b, e := o.Send(1); e != api.EFULL || b != nil {
		t.Fatal(e)
	}
}

// Of a replica that no call made.
func TestNil(t *testing.T) {
	none, _ := replica.New(nil, 0, 2)
	for _, r := range []*replica.Replica{nil, {}, new(replica.Replica), none} {
		for range 2 {
			for _, doc := range []string{"a", "", "!"} {
				x, e := r.Put(doc, 9, "\xff")
				y, e2 := r.Drop(doc)
				if e != api.ENIL || e2 != api.ENIL || !past.SameEvents([]api.Event{x, y}, make([]api.Event, 2)) {
					t.Fatal(x, y, e, e2)
				}
			}
			b, e := r.Send(0)
			hits, e2 := r.Query("(", 3)
			for i, e := range []api.Errno{e, e2, r.Sync(), r.Save(), r.Flush(), r.Compact(), r.Take(nil), r.Take([]byte{1, 2})} {
				refused(t, i, e, api.ENIL)
			}
			if len(b) != 0 || len(hits) != 0 || r.Collect() != 0 {
				t.Fatal(b, hits)
			}
			unchanged(t, "none", r, view{})
		}
	}
}

// A device that is dead lets nothing change, and what needs none goes on.
func TestDead(t *testing.T) {
	r, d := born(t, 0, 2, 60)
	put(t, r, "a", 1, "red")
	other, _ := born(t, 1, 2, 60)
	put(t, other, "b", 1, "red")
	_, news := sent(t, other, 0)
	d.Fuse(0)
	d.Sync()
	was := seen(t, r)
	for range 2 {
		_, e := r.Put("c", 1, "")
		_, e2 := r.Drop("a")
		_, e3 := r.Send(1)
		for i, e := range []api.Errno{e, e2, e3, r.Sync(), r.Save(), r.Take(news)} {
			refused(t, i, e, api.EDEAD)
		}
		_, e = r.Drop("c")
		refused(t, "Drop", e, api.ENONE)
		_, e = r.Put("C", 1, "")
		refused(t, "Put", e, api.EARG)
		_, e = r.Send(0)
		refused(t, "Send", e, api.EPEER)
		unchanged(t, "dead", r, was)
	}
	ok(t, "Flush", r.Flush())
	ok(t, "Compact", r.Compact())
	finds(t, r, "red", "a")
	if _, e := journal.Open(d); e != api.EDEAD {
		t.Fatal(e)
	}
}
