package replica_test

import (
	"math/rand"
	"slices"
	"testing"

	"scholia/api"
	"scholia/audit"
	"scholia/docs"
	"scholia/dots"
	"scholia/oracle"
	"scholia/pages"
	"scholia/past"
	"scholia/replica"
)

// life is a replica, and what is to be so of it.
type life struct {
	disk *pages.Disk
	rep  *replica.Replica
	safe api.Vector       // what was there for good, whenever that was asked
	seen api.Vector       // what it knew
	used map[int]struct{} // numbers of its own events, also of those that were lost
	met  map[api.Dot]int  // the times of the events that it knows, or knew
}

// letter is a message that was sent once.
type letter struct {
	to int
	b  []byte
}

// world is replicas, and all messages that they ever sent: each may come at any time, and again.
type world struct {
	rnd    *rand.Rand
	lives  []*life
	events []api.Event
	sent   []letter
	full   int // how often there was no room
}

var lifeTexts = []string{"red fox", "the red hens", "fox fox fox", "", "blue"}
var lifeQueries = []string{"red", "fox*", "\"red fox\"", "-red", "title:fox | body:red", "(red | blue) -hen"}

// newWorld is replicas on devices of so many pages.
func newWorld(t *testing.T, rnd *rand.Rand, n, size int) *world {
	t.Helper()
	w := &world{rnd: rnd}
	for i := range n {
		d, _ := pages.New(size)
		r, e := replica.New(d, i, n)
		if e != api.OK {
			t.Fatal(e)
		}
		w.lives = append(w.lives, &life{disk: d, rep: r, used: map[int]struct{}{}, met: map[api.Dot]int{}})
	}
	return w
}

// edit lets one do an event.
func (w *world) edit(t *testing.T, i int) api.Errno {
	t.Helper()
	x := w.lives[i]
	doc := string(rune('a' + w.rnd.Intn(4)))
	var event api.Event
	var e api.Errno
	was := x.rep.State()
	if w.rnd.Intn(3) == 0 {
		event, e = x.rep.Drop(doc)
	} else {
		field := w.rnd.Intn(5)
		text := ""
		if field > 0 {
			text = lifeTexts[w.rnd.Intn(len(lifeTexts))]
		}
		event, e = x.rep.Put(doc, field, text)
	}
	if e != api.OK {
		if !docs.Same(x.rep.State(), was) {
			t.Fatal("an edit that was refused changed something")
		}
		return e
	}
	if _, twice := x.used[event.Dot.N]; twice || event.Dot.Rep != i {
		t.Fatalf("the number of %v is used twice", event)
	}
	x.used[event.Dot.N] = struct{}{}
	for _, known := range w.events {
		if dots.Has(was.Seen, known.Dot) && known.Time >= event.Time {
			t.Fatalf("%v is not later than %v, which was known", event, known)
		}
	}
	w.events = append(w.events, event)
	return api.OK
}

// come lets some message that was ever sent come.
func (w *world) come(t *testing.T, k int) api.Errno {
	t.Helper()
	m := w.sent[k]
	x := w.lives[m.to]
	if x.rep == nil {
		return api.EDOWN
	}
	b := slices.Clone(m.b)
	if w.rnd.Intn(6) == 0 {
		b[w.rnd.Intn(len(b))] ^= byte(1 + w.rnd.Intn(255))
		was, old := x.rep.State(), x.rep.Past()
		if e := x.rep.Take(b); e != api.ESUM {
			t.Fatalf("a message that was spoilt: error %d", e)
		}
		if !docs.Same(was, x.rep.State()) || !past.Same(old, x.rep.Past()) {
			t.Fatal("a message that was spoilt changed something")
		}
		return api.OK
	}
	e := x.rep.Take(b)
	if e != api.OK && e != api.EEARLY && e != api.EDEAD && e != api.EFULL {
		t.Fatalf("a message that was sent: error %d", e)
	}
	return e
}

// collect lets one let go of what all have.
func (w *world) collect(t *testing.T, i int) {
	t.Helper()
	x := w.lives[i]
	was := x.rep.Past()
	n := x.rep.Collect()
	now := x.rep.Past()
	if len(was.Events)-len(now.Events) != n {
		t.Fatalf("%d events went, not %d", len(was.Events)-len(now.Events), n)
	}
	for _, e := range was.Events {
		kept := slices.ContainsFunc(now.Events, func(k api.Event) bool { return k.Dot == e.Dot })
		if kept == dots.Has(x.rep.Stable(), e.Dot) {
			t.Fatalf("%v is kept: %v", e, kept)
		}
		for _, y := range w.lives {
			if !kept && !dots.Has(y.safe, e.Dot) {
				t.Fatalf("%v was let go, but not all have it", e)
			}
		}
	}
}

// crash lets the power of one go, and come, till it comes up.
func (w *world) crash(t *testing.T, i int) {
	t.Helper()
	x := w.lives[i]
	for e := api.EDOWN; e != api.OK; {
		var keep []int
		for _, page := range x.disk.Loose() {
			if w.rnd.Intn(2) == 0 {
				keep = append(keep, page)
			}
		}
		x.disk.Crash(keep, w.rnd.Intn(x.disk.Size()), w.rnd.Intn(129))
		if w.rnd.Intn(2) == 0 {
			x.disk.Fuse(w.rnd.Intn(20))
		}
		x.rep, e = replica.Open(x.disk, i, len(w.lives))
		if e != api.OK && e != api.EDEAD {
			t.Fatalf("opened: error %d", e)
		}
	}
	x.disk.Fuse(-1)
	s := x.rep.State()
	if !dots.Within(x.safe, s.Seen) || !dots.Within(s.Seen, x.seen) || x.rep.Safe() != s.Seen {
		t.Fatalf("it knows %v, of %v %v was there for good", s.Seen, x.seen, x.safe)
	}
	next, top := x.rep.Numbers()
	if next != top+1 {
		t.Fatal(next, top)
	}
	for n := range x.used {
		if n >= next {
			t.Fatalf("%d was used, and %d is the next one", n, next)
		}
	}
	w.events = slices.DeleteFunc(w.events, func(e api.Event) bool { return e.Dot.Rep == i && !dots.Has(s.Seen, e.Dot) })
}

// look tells whether a replica is as it should be.
func (w *world) look(t *testing.T, i int) {
	t.Helper()
	x := w.lives[i]
	s, p := x.rep.State(), x.rep.Past()
	if !dots.Within(x.rep.Safe(), s.Seen) || !dots.Within(x.rep.Stable(), x.rep.Safe()) {
		t.Fatal("what is there for good is not known")
	}
	x.safe, x.seen = dots.Join(x.safe, x.rep.Safe()), s.Seen
	known := oracle.Known(w.events, s.Seen)
	corpus := oracle.Corpus(known)
	if !slices.Equal(docs.Corpus(s), corpus) {
		t.Fatalf("%v, not %v", docs.Corpus(s), corpus)
	}
	if !audit.Fine(s, p) {
		t.Fatal(audit.Text(audit.Look(s, p)))
	}
	// Of each event that is known the past has it, or its floor.
	for _, e := range known {
		has := slices.ContainsFunc(p.Events, func(k api.Event) bool { return k.Dot == e.Dot })
		if !has && !dots.Has(p.Floor, e.Dot) {
			t.Fatalf("%v is missing, and the floor does not say so", e)
		}
		if !has && e.Kind == api.Drop {
			for _, y := range w.lives {
				if !dots.Has(y.safe, e.Dot) {
					t.Fatalf("%v is not kept for all", e)
				}
			}
		}
	}
	q := lifeQueries[w.rnd.Intn(len(lifeQueries))]
	hits, e := x.rep.Query(q, 10)
	want, _ := oracle.Scan(corpus, q, 10)
	if e != api.OK || !slices.Equal(hits, want) {
		t.Fatalf("%s: %v, %d, not %v", q, hits, e, want)
	}
}

// step lets something befall one.
func (w *world) step(t *testing.T) {
	t.Helper()
	i := w.rnd.Intn(len(w.lives))
	x := w.lives[i]
	var e api.Errno
	switch k := w.rnd.Intn(40); {
	case k < 12:
		e = w.edit(t, i)
	case k < 20:
		to := (i + 1 + w.rnd.Intn(len(w.lives)-1)) % len(w.lives)
		var b []byte
		if b, e = x.rep.Send(to); e == api.OK {
			w.sent = append(w.sent, letter{to, b})
		}
	case k < 30:
		if len(w.sent) == 0 {
			return
		}
		k := w.rnd.Intn(len(w.sent))
		if w.rnd.Intn(3) > 0 {
			k = len(w.sent) - 1 - w.rnd.Intn(min(6, len(w.sent)))
		}
		i = w.sent[k].to
		e = w.come(t, k)
	case k < 32:
		w.collect(t, i)
	case k < 33:
		e = x.rep.Save()
	case k < 34:
		e = x.rep.Sync()
	case k < 35:
		x.rep.Flush()
	case k < 36:
		x.rep.Compact()
	case k < 38:
		x.disk.Fuse(w.rnd.Intn(12))
	default:
		w.crash(t, i)
	}
	if e == api.EFULL {
		w.full++
	}
	if e == api.EDEAD {
		w.look(t, i)
		w.crash(t, i)
	}
	w.look(t, i)
}

// calm lets each send to each, and that come, so many times.
func (w *world) calm(t *testing.T, rounds int) {
	t.Helper()
	for range rounds {
		for from, x := range w.lives {
			for to, y := range w.lives {
				if from == to {
					continue
				}
				b, e := x.rep.Send(to)
				if e != api.OK {
					t.Fatal(e)
				}
				if e := y.rep.Take(b); e != api.OK {
					t.Fatal(e)
				}
				w.sent = append(w.sent, letter{to, b})
			}
		}
	}
}

// P25.5, P25.6, and P1 to P5 of the whole: many lives.
func TestLives(t *testing.T) {
	for seed := range int64(40) {
		rnd := rand.New(rand.NewSource(seed))
		n := 2 + rnd.Intn(4)
		w := newWorld(t, rnd, n, 200+rnd.Intn(800))
		for range 400 {
			w.step(t)
		}
		for _, x := range w.lives {
			x.disk.Fuse(-1)
		}
		w.end(t)
	}
}

// So it is on devices that have little room, but for what all come to in the end.
func TestNarrowLives(t *testing.T) {
	full := 0
	for seed := range int64(40) {
		rnd := rand.New(rand.NewSource(1000 + seed))
		w := newWorld(t, rnd, 2+rnd.Intn(3), 8+rnd.Intn(50))
		for range 400 {
			w.step(t)
		}
		full += w.full
	}
	if full < 100 {
		t.Error("there was too much room", full)
	}
}

// end tells whether all come to know the same, let go of all removals, and no old message changes that.
func (w *world) end(t *testing.T) {
	t.Helper()
	n := len(w.lives)
	w.calm(t, n)
	for i, x := range w.lives {
		w.look(t, i)
		if !docs.Same(x.rep.State(), w.lives[0].rep.State()) {
			t.Fatal("not all know the same")
		}
		for _, e := range w.events {
			if !dots.Has(x.rep.State().Seen, e.Dot) {
				t.Fatalf("%v is not known", e)
			}
		}
	}
	w.calm(t, 1)
	for i, x := range w.lives {
		w.look(t, i)
		w.collect(t, i)
		if past.Drops(x.rep.Past()) != 0 {
			t.Fatal("a removal is kept")
		}
	}
	for k, m := range w.sent {
		x := w.lives[m.to].rep
		was := x.State()
		if e := w.come(t, k); e != api.OK || !docs.Same(x.State(), was) || past.Drops(x.Past()) != 0 {
			t.Fatalf("an old message: error %d", e)
		}
	}
}
