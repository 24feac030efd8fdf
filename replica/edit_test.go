package replica_test

import (
	"math"
	"slices"
	"strings"
	"testing"

	"scholia/api"
	"scholia/coder"
	"scholia/docs"
	"scholia/frame"
	"scholia/past"
	"scholia/replica"
)

// P25.2: the events that edits are, and what is kept of them.
func TestEvents(t *testing.T) {
	r, d := born(t, 1, 3, 60)
	var l []api.Event
	for _, x := range []struct {
		doc, text string
		field     int
		gone      []api.Dot
	}{
		{"b", "red", 1, nil},
		{"b", "", 0, nil},
		{"b", "blue", 1, []api.Dot{dot(1, 1)}},
		{"a", "red", 4, nil},
		{"b", "", 1, []api.Dot{dot(1, 3)}},
		{"b", "", 0, []api.Dot{dot(1, 2)}},
	} {
		n := len(l) + 1
		got := put(t, r, x.doc, x.field, x.text)
		want := api.Event{Dot: dot(1, n), Time: n, Kind: api.Put, Doc: x.doc, Field: x.field, Text: x.text, Gone: x.gone}
		if !past.SameEvents([]api.Event{got}, []api.Event{want}) {
			t.Fatalf("%v, not %v", got, want)
		}
		l = append(l, got)
	}
	got := drop(t, r, "b")
	if want := removed(1, 7, 7, "b", dot(1, 5), dot(1, 6)); !past.SameEvents([]api.Event{got}, []api.Event{want}) {
		t.Fatalf("%v, not %v", got, want)
	}
	l = append(l, got)
	v := seen(t, r)
	if !docs.Same(v.state, state(t, l...)) || !past.Same(v.past, api.Past{Events: l}) {
		t.Fatal(v)
	}
	if v.safe != vector() || v.next != 8 || v.top != 8 {
		t.Fatal(v)
	}
	records := [][]byte{ofTop(8)}
	for _, x := range l {
		records = append(records, ofEvents(x))
	}
	holds(t, "edits", d, snapshot(1, 3, 0, 0, api.State{}, api.Past{}), records...)
	finds(t, r, "red", "a")
}

// P25.2: edits that may not be; the first error is told, and nothing has changed.
func TestRefused(t *testing.T) {
	r, _ := born(t, 0, 2, 600)
	put(t, r, "a", 1, "red")
	was := seen(t, r)
	text := strings.Repeat("x", 161)
	for _, x := range []struct {
		doc, text string
		field     int
		want      api.Errno
	}{
		{"", "", 1, api.EARG}, {"A", "", 1, api.EARG}, {"a b", text, 9, api.EARG}, {strings.Repeat("a", 13), "", 1, api.EARG}, {"\xff", "", 1, api.EARG},
		{"a", "", -1, api.EARG}, {"a", "", 5, api.EARG}, {"a", "x", 0, api.EARG}, {"a", text, 5, api.EARG}, {"a", text, 0, api.EARG}, {"a", "", math.MaxInt, api.EARG},
		{"a", text, 1, api.ELONG}, {"a", text[:160] + "\xff", 4, api.ELONG},
		{"a", "\xff", 1, api.EUTF}, {"b", text[:159] + "\xc3", 2, api.EUTF},
	} {
		got, e := r.Put(x.doc, x.field, x.text)
		if e != x.want || !past.SameEvents([]api.Event{got}, []api.Event{{}}) {
			t.Errorf("%q, %d, %q: %v, %d; not %d", x.doc, x.field, x.text, got, e, x.want)
		}
	}
	for _, doc := range []string{"", "b", "A", "\xff", text} {
		got, e := r.Drop(doc)
		if e != api.ENONE || !past.SameEvents([]api.Event{got}, []api.Event{{}}) {
			t.Errorf("%q: %v, %d", doc, got, e)
		}
	}
	unchanged(t, "refused", r, was)
	put(t, r, strings.Repeat("z", 12), 4, text[:160])
	put(t, r, "-0-", 0, "")
	drop(t, r, "a")
	if got, e := r.Drop("a"); e != api.ENONE || got.Kind != 0 {
		t.Fatal(got, e)
	}
}

// P25.2: no more than 40 documents beside one another.
func TestMaxDocs(t *testing.T) {
	r, _ := born(t, 0, 2, 600)
	var names []string
	for i := range 40 {
		names = append(names, "doc-"+string(rune('a'+i%26))+string(rune('a'+i/26)))
		put(t, r, names[i], 1, "red")
	}
	was := seen(t, r)
	for _, doc := range []string{"x", "doc", "doc-aaa"} {
		if got, e := r.Put(doc, 1, ""); e != api.EFULL || got.Kind != 0 {
			t.Fatal(got, e)
		}
		if _, e := r.Put(doc, 5, ""); e != api.EARG { // ahead of that
			t.Fatal(e)
		}
	}
	unchanged(t, "full", r, was)
	put(t, r, names[7], 2, "blue") // one that is there
	drop(t, r, names[3])
	put(t, r, "x", 1, "")
	if _, e := r.Put(names[3], 1, ""); e != api.EFULL {
		t.Fatal(e)
	}

	// More may come from others; then there may still be no new one.
	var l []api.Event
	for i := range 3 {
		l = append(l, written(1, i+1, 1, "more-"+string(rune('a'+i)), "red"))
	}
	ok(t, "Take", r.Take(sealed(t, api.Msg{Kind: api.MDelta, From: 1, To: 0, Events: l})))
	if n := len(docs.Names(r.State())); n != 43 {
		t.Fatal(n)
	}
	put(t, r, "more-a", 1, "")
	drop(t, r, "more-a")
	for _, doc := range []string{"y", "more-a"} {
		if _, e := r.Put(doc, 1, ""); e != api.EFULL {
			t.Fatal(doc, e)
		}
	}
}

// beside is a full message of a document's writes beside one another, so many into a field.
func beside(t *testing.T, fields ...int) []byte {
	t.Helper()
	var s api.State
	for field, n := range fields {
		for range n {
			s.Seen[1]++
			s.Live = append(s.Live, api.Write{Dot: dot(1, s.Seen[1]), Time: 1, Doc: "a", Field: field, Text: ""})
		}
	}
	return sealed(t, api.Msg{Kind: api.MFull, From: 1, To: 0, State: s, Floor: s.Seen})
}

// P25.2: no more than 120 writes are taken away at once.
func TestMaxGone(t *testing.T) {
	r, _ := born(t, 0, 2, 600)
	ok(t, "Take", r.Take(beside(t, 0, 120, 1)))
	was := seen(t, r)
	if got, e := r.Drop("a"); e != api.EFULL || got.Kind != 0 {
		t.Fatal(got, e)
	}
	unchanged(t, "refused", r, was)
	x := put(t, r, "a", 1, "red")
	if len(x.Gone) != 120 || x.Gone[0] != dot(1, 1) || x.Gone[119] != dot(1, 120) {
		t.Fatal(x)
	}
	if x := drop(t, r, "a"); len(x.Gone) != 2 || x.Gone[0] != dot(0, 1) || x.Gone[1] != dot(1, 121) {
		t.Fatal(x)
	}

	r, _ = born(t, 0, 2, 600)
	ok(t, "Take", r.Take(beside(t, 0, 0, 121)))
	was = seen(t, r)
	for range 2 {
		if got, e := r.Put("a", 2, "red"); e != api.EFULL || got.Kind != 0 {
			t.Fatal(got, e)
		}
	}
	unchanged(t, "refused", r, was)
	put(t, r, "a", 1, "red")
}

// P25.2: times and numbers end.
func TestEnds(t *testing.T) {
	const last, latest = 1 << 30, 1 << 40
	r := open(t, laid(t, 60, snapshot(0, 2, 5, latest-1, api.State{}, api.Past{})), 0, 2)
	if x := put(t, r, "a", 1, ""); x.Time != latest || x.Dot != dot(0, 6) {
		t.Fatal(x)
	}
	was := seen(t, r)
	_, e := r.Put("a", 1, "")
	_, e2 := r.Drop("a")
	if e != api.EOVER || e2 != api.EOVER {
		t.Fatal(e, e2)
	}
	unchanged(t, "no time", r, was)

	// The top is raised to the greatest number, and no further.
	d := laid(t, 60, snapshot(0, 2, last-3, 0, api.State{}, api.Past{}))
	r = open(t, d, 0, 2)
	for i := range 3 {
		if x := put(t, r, "a", 1, ""); x.Dot != dot(0, last-2+i) {
			t.Fatal(x)
		}
		if _, top := r.Numbers(); top != last {
			t.Fatal(top)
		}
	}
	was = seen(t, r)
	_, e = r.Put("a", 1, "")
	_, e2 = r.Drop("a")
	if e != api.EOVER || e2 != api.EOVER || was.next != last+1 {
		t.Fatal(e, e2, was)
	}
	unchanged(t, "no number", r, was)
	ok(t, "Crash", d.Crash(nil, -1, 0))
	r = open(t, d, 0, 2)
	if _, e := r.Put("a", 1, ""); e != api.EOVER {
		t.Fatal(e)
	}

	// Too many writes come ahead of the time, the time ahead of the number.
	r = open(t, laid(t, 60, snapshot(0, 2, last, latest, api.State{}, api.Past{})), 0, 2)
	if _, e := r.Put("a", 1, ""); e != api.EOVER {
		t.Fatal(e)
	}
	ok(t, "Take", r.Take(beside(t, 0, 0, 121)))
	if _, e := r.Put("a", 2, ""); e != api.EFULL {
		t.Fatal(e)
	}
}

// P25.2: numbers are taken eight at once, ahead of their use, and that lasts.
func TestReserve(t *testing.T) {
	r, d := born(t, 0, 2, 200)
	for i := range 20 {
		safe := r.Safe()
		put(t, r, "a", 1, "")
		next, top := r.Numbers()
		if next != i+2 || top != (i/8+1)*8 {
			t.Fatal(next, top)
		}
		// The Sync lets all last that was known ahead.
		if i%8 == 0 {
			safe = vector(i)
		}
		if r.Safe() != safe {
			t.Fatal(r.Safe(), safe)
		}
	}
	// What was reserved is there for good, the event is not.
	r, d = born(t, 0, 2, 200)
	put(t, r, "a", 1, "")
	ok(t, "Crash", d.Crash(nil, -1, 0))
	o := open(t, d, 0, 2)
	if next, top := o.Numbers(); next != 9 || top != 8 || o.State().Seen != vector() {
		t.Fatal(next, top, o.State())
	}
	if x := put(t, o, "a", 1, ""); x.Dot != dot(0, 9) {
		t.Fatal(x)
	}
	if next, top := o.Numbers(); next != 10 || top != 16 {
		t.Fatal(next, top)
	}
	// One write of the top, its Sync, one write of the event; then one write alone.
	_, d = born(t, 0, 2, 200)
	edit := func(r *replica.Replica) api.Errno {
		_, e := r.Put("a", 1, "")
		return e
	}
	if n := acts(t, d, 0, 2, edit); n != 3 {
		t.Fatal(n)
	}
	if n := acts(t, d, 0, 2, func(r *replica.Replica) api.Errno {
		for range 4 {
			if e := edit(r); e != api.OK {
				return e
			}
		}
		return api.OK
	}); n != 3+3 {
		t.Fatal(n)
	}
}

// P25.2, P25.6: power goes at each act of an edit: nothing is known of it then, and its number is not used again.
func TestEditCutOff(t *testing.T) {
	for fuse := range 3 {
		r, d := born(t, 0, 2, 60)
		put(t, r, "a", 1, "red")
		for range 7 {
			put(t, r, "a", 2, "x")
		}
		was := seen(t, r)
		d.Fuse(fuse)
		if x, e := r.Put("b", 1, "blue"); e != api.EDEAD || x.Kind != 0 {
			t.Fatal(x, e)
		}
		now := seen(t, r)
		if !docs.Same(now.state, was.state) || !past.Same(now.past, was.past) || now.next != 9 {
			t.Fatal(now)
		}
		finds(t, r, "blue")
		for _, keep := range [][]int{nil, d.Loose()} {
			c := d.Clone()
			ok(t, "Crash", c.Crash(keep, -1, 0))
			o := open(t, c, 0, 2)
			within(t, was.safe, o.State().Seen)
			within(t, o.State().Seen, was.state.Seen)
			if x := put(t, o, "b", 1, "blue"); x.Dot.N < 9 {
				t.Fatal(x)
			}
		}
	}
}

// sheaf is what a device of 30 pages should have: 14 of them are a half.
type sheaf struct {
	snap    []byte
	records [][]byte
	used    int // bytes of the half
	saved   int // how often a snapshot was saved
}

// part is how many bytes a snapshot or a record takes.
func part(b []byte) int {
	return len(coder.Text(nil, string(frame.Seal(b))))
}

// sync closes the page that has the last byte.
func (x *sheaf) sync() {
	x.used = (x.used + 112) / 113 * 113
}

// save puts a snapshot in the place of all records.
func (x *sheaf) save(snap []byte) {
	x.snap, x.records, x.used = snap, nil, part(snap)
	x.saved++
	x.sync()
}

// keep puts a record behind the others, or behind a snapshot.
func (x *sheaf) keep(b, snap []byte) {
	if x.used+part(b) > 14*113 {
		x.save(snap)
	}
	x.records = append(x.records, b)
	x.used += part(b)
}

// Where a record has no room a snapshot takes the place of all records, and it stands behind that.
func TestKeep(t *testing.T) {
	r, d := born(t, 0, 2, 30)
	var x sheaf
	x.save(snapshot(0, 2, 0, 0, api.State{}, api.Past{}))
	const edits = 60
	for i := range edits {
		was := seen(t, r)
		known := func(top int) []byte { return snapshot(0, 2, top, i, was.state, was.past) }
		saved, safe := x.saved, was.safe
		if i%8 == 0 {
			x.keep(ofTop(i+8), known(i))
			x.sync()
			safe = was.state.Seen
		}
		var event api.Event
		if i%4 == 3 {
			event = drop(t, r, "a")
			if r.Collect() != 0 {
				t.Fatal("not all have that")
			}
		} else {
			event = put(t, r, "a", 1+i%2, long(2+i%30, i))
		}
		x.keep(ofEvents(event), known((i/8+1)*8))
		if x.saved > saved {
			safe = was.state.Seen
		}
		if r.Safe() != safe {
			t.Fatal(i, r.Safe(), safe)
		}
		holds(t, i, d, x.snap, x.records...)
		if x.saved > 2 {
			return
		}
	}
	t.Fatal("there was room for all", x.saved)
}

// P25.2: an edit for which there is no room: what is known has not changed, and what was there stays.
func TestNoRoom(t *testing.T) {
	r, d := born(t, 0, 2, 16) // 7 pages a half: 791 bytes
	var e api.Errno
	n := 0
	for e == api.OK {
		was := seen(t, r)
		var x api.Event
		if x, e = r.Put("doc"+string(rune('a'+n)), 1, long(40, n)); e == api.OK {
			n++
			continue
		}
		refused(t, n, e, api.EFULL)
		now := seen(t, r)
		if x.Kind != 0 || !docs.Same(now.state, was.state) || !past.Same(now.past, was.past) || now.next != was.next {
			t.Fatal(x, now)
		}
	}
	if n < 4 {
		t.Fatal(n)
	}
	was := seen(t, r)
	for range 3 {
		_, e := r.Put("more", 1, long(160, 1))
		refused(t, "Put", e, api.EFULL)
		if now := seen(t, r); !docs.Same(now.state, was.state) || !past.Same(now.past, was.past) || now.next != was.next {
			t.Fatal(now)
		}
		finds(t, r, "more")
	}
	ok(t, "Sync", r.Sync())
	ok(t, "Crash", d.Crash(nil, -1, 0))
	o := open(t, d, 0, 2)
	if !docs.Same(o.State(), was.state) || o.Safe() != was.state.Seen {
		t.Fatal(o.State())
	}
	if names := docs.Names(o.State()); len(names) != n || !slices.IsSorted(names) {
		t.Fatal(names)
	}
}

// What a replica tells is not its own.
func TestMemory(t *testing.T) {
	r, _ := born(t, 0, 2, 60)
	put(t, r, "a", 1, "red")
	put(t, r, "a", 2, "red")
	x := drop(t, r, "a")
	put(t, r, "b", 1, "red")
	was := seen(t, r)
	kept := func() {
		t.Helper()
		now := seen(t, r)
		if len(now.state.Live) != 1 || now.state.Live[0].Doc != "b" || len(now.past.Events) != 4 || now.past.Events[2].Gone[0] != dot(0, 1) {
			t.Fatal(now)
		}
	}
	clear(x.Gone)
	kept()
	clear(was.state.Live[:cap(was.state.Live)])
	clear(was.past.Events[2].Gone)
	clear(was.past.Events[:cap(was.past.Events)])
	kept()
	b, e := r.Send(1)
	ok(t, "Send", e)
	clear(b[:cap(b)])
	kept()
	other, _ := born(t, 1, 2, 60)
	m, b := sent(t, r, 1)
	in := append(slices.Clone(b), "behind it"...)
	ok(t, "Take", other.Take(in[:len(b)]))
	if !slices.Equal(in, append(slices.Clone(b), "behind it"...)) {
		t.Fatal("what was handed in was changed")
	}
	clear(in)
	if p := other.Past(); !past.SameEvents(p.Events, m.Events) {
		t.Fatal(p)
	}
	hits, _ := r.Query("red", 5)
	clear(hits)
	finds(t, r, "red", "b")
}
