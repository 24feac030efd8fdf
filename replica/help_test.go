package replica_test

import (
	"slices"
	"strings"
	"testing"

	"scholia/api"
	"scholia/coder"
	"scholia/docs"
	"scholia/dots"
	"scholia/journal"
	"scholia/pages"
	"scholia/past"
	"scholia/replica"
	"scholia/wire"
)

// ok tells whether a call went well.
func ok(t *testing.T, what any, e api.Errno) {
	t.Helper()
	if e != api.OK {
		t.Fatalf("%v: error %d", what, e)
	}
}

// refused tells whether a call told an error.
func refused(t *testing.T, what any, got, want api.Errno) {
	t.Helper()
	if got != want {
		t.Fatalf("%v: error %d, not %d", what, got, want)
	}
}

// device is one of so many pages.
func device(t *testing.T, n int) *pages.Disk {
	t.Helper()
	d, e := pages.New(n)
	ok(t, n, e)
	return d
}

// born is a new replica, and its device.
func born(t *testing.T, self, n, size int) (*replica.Replica, *pages.Disk) {
	t.Helper()
	d := device(t, size)
	r, e := replica.New(d, self, n)
	ok(t, "New", e)
	return r, d
}

// open is the replica of a device.
func open(t *testing.T, d *pages.Disk, self, n int) *replica.Replica {
	t.Helper()
	r, e := replica.Open(d, self, n)
	ok(t, "Open", e)
	return r
}

// put and drop let a replica do an event.
func put(t *testing.T, r *replica.Replica, doc string, field int, text string) api.Event {
	t.Helper()
	x, e := r.Put(doc, field, text)
	ok(t, "Put of "+doc, e)
	return x
}

func drop(t *testing.T, r *replica.Replica, doc string) api.Event {
	t.Helper()
	x, e := r.Drop(doc)
	ok(t, "Drop of "+doc, e)
	return x
}

// sent is a message of one to another one, and its bytes.
func sent(t *testing.T, r *replica.Replica, to int) (api.Msg, []byte) {
	t.Helper()
	b, e := r.Send(to)
	ok(t, "Send", e)
	m, e := wire.Decode(b)
	ok(t, "Decode", e)
	return m, b
}

// tell lets one send to another one, and that come.
func tell(t *testing.T, from, to *replica.Replica, number int) api.Msg {
	t.Helper()
	m, b := sent(t, from, number)
	ok(t, "Take", to.Take(b))
	return m
}

// sealed is the bytes of a message.
func sealed(t *testing.T, m api.Msg) []byte {
	t.Helper()
	b, e := wire.Encode(m)
	ok(t, "Encode", e)
	return b
}

// dot is an event's name.
func dot(rep, n int) api.Dot {
	return api.Dot{Rep: rep, N: n}
}

// written is a Put of another one.
func written(rep, n, time int, doc, text string, gone ...api.Dot) api.Event {
	return api.Event{Dot: dot(rep, n), Time: time, Kind: api.Put, Doc: doc, Field: 1, Text: text, Gone: gone}
}

// removed is a Drop of another one.
func removed(rep, n, time int, doc string, gone ...api.Dot) api.Event {
	return api.Event{Dot: dot(rep, n), Time: time, Kind: api.Drop, Doc: doc, Gone: gone}
}

// state is what events come to.
func state(t *testing.T, l ...api.Event) api.State {
	t.Helper()
	var s api.State
	for _, x := range l {
		next, e := docs.Apply(s, x)
		ok(t, x, e)
		s = next
	}
	return s
}

// view is all that a replica tells of itself.
type view struct {
	state        api.State
	past         api.Past
	safe, stable api.Vector
	next, top    int
	segments     int
}

// seen is what a replica tells of itself, asked twice.
func seen(t *testing.T, r *replica.Replica) view {
	t.Helper()
	ask := func() view {
		next, top := r.Numbers()
		return view{r.State(), r.Past(), r.Safe(), r.Stable(), next, top, r.Segments()}
	}
	v := ask()
	if again := ask(); !same(v, again) {
		t.Fatalf("it tells %v, and then %v", v, again)
	}
	return v
}

// same tells whether two views are the same.
func same(a, b view) bool {
	return docs.Same(a.state, b.state) && past.Same(a.past, b.past) && a.safe == b.safe && a.stable == b.stable &&
		a.next == b.next && a.top == b.top && a.segments == b.segments
}

// unchanged tells whether a replica is as it was.
func unchanged(t *testing.T, what any, r *replica.Replica, was view) {
	t.Helper()
	if now := seen(t, r); !same(now, was) {
		t.Fatalf("%v: it was %v, and is %v", what, was, now)
	}
}

// snapshot is the bytes of a snapshot, as the chapter tells them.
func snapshot(self, n, top, clock int, s api.State, p api.Past) []byte {
	var b []byte
	for _, x := range []int{self, n, top, clock} {
		b = coder.Num(b, x)
	}
	return past.Put(docs.Put(b, s), p)
}

// ofEvents, ofTop and ofWhole are the bytes of records, as the chapter tells them.
func ofEvents(l ...api.Event) []byte {
	return past.PutEvents([]byte{1}, l)
}

func ofTop(top int) []byte {
	return coder.Num([]byte{2}, top)
}

func ofWhole(s api.State, p api.Past) []byte {
	return past.Put(docs.Put([]byte{3}, s), p)
}

// laid is a device with a log of a snapshot and records.
func laid(t *testing.T, size int, snap []byte, records ...[]byte) *pages.Disk {
	t.Helper()
	d := device(t, size)
	l, e := journal.Format(d, snap)
	ok(t, "Format", e)
	for _, b := range records {
		_, e := l.Append(b)
		ok(t, "Append", e)
	}
	ok(t, "Sync", l.Sync())
	return d
}

// holds tells whether a device has a log of just that snapshot and these records; of what was written all is there.
func holds(t *testing.T, what any, d *pages.Disk, snap []byte, records ...[]byte) {
	t.Helper()
	c := d.Clone()
	ok(t, what, c.Crash(c.Loose(), -1, 0))
	l, e := journal.Open(c)
	ok(t, what, e)
	if !slices.Equal(l.Snapshot(), snap) {
		t.Fatalf("%v: the snapshot is\n%x, not\n%x", what, l.Snapshot(), snap)
	}
	if !slices.EqualFunc(l.Records(), records, slices.Equal[[]byte]) {
		t.Fatalf("%v: the records are\n%x, not\n%x", what, l.Records(), records)
	}
}

// finds tells whether a query finds just these documents.
func finds(t *testing.T, r *replica.Replica, text string, want ...string) {
	t.Helper()
	l, e := r.Query(text, 20)
	ok(t, text, e)
	var got []string
	for _, h := range l {
		got = append(got, h.Id)
	}
	slices.Sort(got)
	if !slices.Equal(got, want) {
		t.Fatalf("%s: %v, not %v", text, got, want)
	}
}

// vector is one of numbers.
func vector(n ...int) api.Vector {
	var v api.Vector
	copy(v[:], n)
	return v
}

// long is a text of so many bytes, none twice the same.
func long(n int, with int) string {
	s := strings.Repeat("x", n)
	return string(rune('a'+with%26)) + string(rune('a'+with/26%26)) + s[2:]
}

// acts is how many acts of a device a call takes: it is done with a fuse of as many, and no fewer.
func acts(t *testing.T, d *pages.Disk, self, n int, call func(r *replica.Replica) api.Errno) int {
	t.Helper()
	for fuse := range 10000 {
		c := d.Clone()
		ok(t, "Crash", c.Crash(nil, -1, 0))
		r := open(t, c, self, n)
		ok(t, "Fuse", c.Fuse(fuse))
		if e := call(r); e != api.EDEAD {
			ok(t, "call", e)
			return fuse
		}
	}
	t.Fatal("there is no end of acts")
	return 0
}

// within tells whether one vector is in another one.
func within(t *testing.T, a, b api.Vector) {
	t.Helper()
	if !dots.Within(a, b) {
		t.Fatalf("%v is not within %v", a, b)
	}
}
