package replica_test

import (
	"slices"
	"testing"

	"scholia/api"
	"scholia/docs"
	"scholia/past"
	"scholia/replica"
)

// P25.4: what all have for good is let go of, and nothing else.
func TestCollect(t *testing.T) {
	a, da := born(t, 0, 2, 60)
	b, db := born(t, 1, 2, 60)
	put(t, a, "a", 1, "red")
	drop(t, a, "a")
	x := put(t, a, "b", 1, "red")
	none := func(r *replica.Replica) {
		t.Helper()
		was := seen(t, r)
		if n := r.Collect(); n != 0 {
			t.Fatal(n)
		}
		unchanged(t, "nothing went", r, was)
	}
	none(a)
	ok(t, "Sync", a.Sync())
	none(a) // the other one is not known to have it
	_, bytes := sent(t, a, 1)
	ok(t, "Take", b.Take(bytes))
	none(b) // it is not there for good
	y := put(t, a, "c", 1, "red")
	tell(t, b, a, 0)
	if n := a.Collect(); n != 3 || a.Stable() != vector(3) {
		t.Fatal(n, a.Stable())
	}
	if p := a.Past(); !past.Same(p, api.Past{Events: []api.Event{y}, Floor: vector(3)}) {
		t.Fatal(p)
	}
	none(a)
	if n := b.Collect(); n != 3 { // it has synced, and the other one told what it has
		t.Fatal(n)
	}
	if p := b.Past(); !past.Same(p, api.Past{Floor: vector(3)}) {
		t.Fatal(p)
	}
	// No document changes by that, and an old message brings nothing back.
	finds(t, a, "red", "b", "c")
	finds(t, b, "red", "b")
	ok(t, "Take", b.Take(bytes))
	if past.Drops(b.Past()) != 0 {
		t.Fatal(b.Past())
	}
	finds(t, b, "red", "b")
	// What is saved is without it; what was not saved is there again, till all are known to have it.
	ok(t, "Save", a.Save())
	ok(t, "Crash", da.Crash(nil, -1, 0))
	if o := open(t, da, 0, 2); !past.Same(o.Past(), api.Past{Events: []api.Event{y}, Floor: vector(3)}) {
		t.Fatal(o.Past())
	}
	ok(t, "Crash", db.Crash(nil, -1, 0))
	o := open(t, db, 1, 2)
	if past.Drops(o.Past()) != 1 || o.Past().Events[2].Dot != x.Dot {
		t.Fatal(o.Past())
	}
	none(o)
}

// P25.4: a removal that one of three lacks is kept.
func TestCollectOfThree(t *testing.T) {
	var l []*replica.Replica
	for i := range 3 {
		r, _ := born(t, i, 3, 60)
		l = append(l, r)
	}
	put(t, l[0], "a", 1, "red")
	drop(t, l[0], "a")
	tell(t, l[0], l[1], 1)
	tell(t, l[1], l[0], 0)
	for _, r := range l[:2] {
		if r.Collect() != 0 || past.Drops(r.Past()) != 1 {
			t.Fatal(r.Past())
		}
	}
	tell(t, l[1], l[2], 2)
	tell(t, l[2], l[0], 0)
	if n := l[0].Collect(); n != 2 {
		t.Fatal(n)
	}
	if l[1].Collect() != 0 {
		t.Fatal("it has not heard of the third one")
	}
	tell(t, l[0], l[1], 1)
	if l[1].Collect() != 0 {
		t.Fatal("it has heard of the third one by another one")
	}
	tell(t, l[2], l[1], 1)
	if l[1].Collect() != 2 {
		t.Fatal(l[1].Past())
	}
}

// P25.4: a snapshot has all that is known, which is there for good then.
func TestSave(t *testing.T) {
	r, d := born(t, 0, 2, 60)
	put(t, r, "a", 1, "red fox")
	drop(t, r, "a")
	put(t, r, "b", 1, "red")
	ok(t, "Take", r.Take(sealed(t, api.Msg{Kind: api.MDelta, From: 1, To: 0, Ack: vector(3), Events: []api.Event{written(1, 1, 9, "c", "red")}})))
	was := seen(t, r)
	ok(t, "Save", r.Save())
	holds(t, "saved", d, snapshot(0, 2, 8, 9, was.state, was.past))
	now := seen(t, r)
	was.safe, was.stable = was.state.Seen, vector(3)
	if !same(now, was) {
		t.Fatal(now, was)
	}
	ok(t, "Crash", d.Crash(nil, -1, 0))
	o := open(t, d, 0, 2)
	if !docs.Same(o.State(), was.state) || !past.Same(o.Past(), was.past) {
		t.Fatal(o.State(), o.Past())
	}
	if x := put(t, o, "a", 1, ""); x.Time != 10 || x.Dot != dot(0, 9) {
		t.Fatal(x)
	}
	for fuse := range 40 { // power goes while it is saved
		c := d.Clone()
		c.Crash(nil, -1, 0)
		r := open(t, c, 0, 2)
		c.Fuse(fuse)
		if e := r.Save(); e == api.OK {
			if fuse < 4 {
				t.Fatal(fuse)
			}
			return
		} else {
			refused(t, fuse, e, api.EDEAD)
		}
		c.Crash(c.Loose(), fuse%4, 70)
		if o := open(t, c, 0, 2); !docs.Same(o.State(), was.state) {
			t.Fatal(o.State())
		}
	}
	t.Fatal("there is no end of acts")
}

// P25.4: the index goes along with what is known, and Flush and Compact change no answer.
func TestIndex(t *testing.T) {
	r, d := born(t, 0, 2, 200)
	names := []string{"a", "b", "c", "d", "e", "f"}
	for i, doc := range names {
		put(t, r, doc, 1, "red "+doc+" fox")
		if i%2 == 0 {
			ok(t, "Flush", r.Flush())
		}
	}
	if r.Segments() != 3 {
		t.Fatal(r.Segments())
	}
	finds(t, r, "red", names...)
	finds(t, r, "\"c fox\"", "c")
	put(t, r, "c", 1, "blue")
	drop(t, r, "e")
	finds(t, r, "red", "a", "b", "d", "f")
	ok(t, "Flush", r.Flush())
	ok(t, "Flush", r.Flush()) // without anything that came since
	if r.Segments() != 4 {
		t.Fatal(r.Segments())
	}
	put(t, r, "g", 2, "red")
	ok(t, "Flush", r.Flush()) // a fifth one
	if r.Segments() != 1 {
		t.Fatal(r.Segments())
	}
	finds(t, r, "red", "a", "b", "d", "f", "g")
	ok(t, "Take", r.Take(sealed(t, api.Msg{Kind: api.MDelta, From: 1, To: 0, Events: []api.Event{removed(1, 1, 40, "g", dot(0, 9)), written(1, 2, 41, "h", "red")}})))
	finds(t, r, "red", "a", "b", "d", "f", "h")
	ok(t, "Flush", r.Flush())
	ok(t, "Compact", r.Compact())
	if r.Segments() != 1 {
		t.Fatal(r.Segments())
	}
	finds(t, r, "red", "a", "b", "d", "f", "h")

	// What it answers has scores, at most so many, and a query's errors.
	hits, e := r.Query("red -d fox", 2)
	if e != api.OK || !slices.Equal(hits, []api.Hit{{Id: "a", Score: 2}, {Id: "b", Score: 2}}) {
		t.Fatal(hits, e)
	}
	for q, want := range map[string]api.Errno{"": api.ESYNTAX, "(": api.ESYNTAX, "\xff": api.EUTF, "(((((((a)))))))": api.EDEEP, long(121, 1): api.ELONG} {
		if hits, e := r.Query(q, 5); e != want || hits != nil {
			t.Error(q, hits, e)
		}
	}
	for _, k := range []int{0, -1} {
		if hits, e := r.Query("red", k); e != api.OK || len(hits) != 0 {
			t.Error(k, hits, e)
		}
	}
	ok(t, "Sync", r.Sync())
	ok(t, "Crash", d.Crash(nil, -1, 0))
	o := open(t, d, 0, 2)
	if o.Segments() != 0 {
		t.Fatal(o.Segments())
	}
	finds(t, o, "red", "a", "b", "d", "f", "h")
}
