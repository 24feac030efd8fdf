package oracle_test

import (
	"math/rand"
	"slices"
	"testing"

	"scholia/api"
	"scholia/audit"
	"scholia/cluster"
	"scholia/docs"
	"scholia/dots"
	"scholia/oracle"
)

// whole is a cluster, and what befell it.
type whole struct {
	*cluster.Cluster
	rnd   *rand.Rand
	safe  []api.Vector               // of each, what was there for good
	alike map[api.Vector][]api.Doc   // what those who knew this had
	told  map[api.Vector][][]api.Hit // and answered to each of asked
}

// asked is what all are asked.
var asked = []string{"red", "fox*", "\"red fox\"", "-red", "title:fox | body:red", "the"}

// begun is a new cluster.
func begun(t *testing.T, rnd *rand.Rand, n, size int) *whole {
	t.Helper()
	c, e := cluster.New(n, size)
	if e != api.OK {
		t.Fatal(e)
	}
	return &whole{c, rnd, make([]api.Vector, n), map[api.Vector][]api.Doc{}, map[api.Vector][][]api.Hit{}}
}

// kinds is what befalls a cluster: that of a kind of the first ones the most.
var kinds = []int{
	api.SPut, api.SPut, api.SPut, api.SPut, api.SPut, api.SDrop, api.SDrop, api.SSend, api.SSend, api.SSend, api.SSend, api.SDeliver, api.SDeliver, api.SDeliver, api.SDeliver, api.SDeliver,
	api.SPut, api.SPut, api.SSend, api.SSend, api.SDeliver, api.SStart, api.SStart, api.SStart, api.SCollect, api.SCollect,
	api.SSync, api.SLose, api.SDouble, api.SSpoil, api.SCrash, api.SFuse, api.SFlush, api.SFlush, api.SCompact, api.SSave, api.SQuery,
}

// some is any step.
func (w *whole) some() api.Step {
	n := w.Size()
	x := api.Step{Kind: kinds[w.rnd.Intn(len(kinds))], Rep: w.rnd.Intn(n), Doc: string(rune('a' + w.rnd.Intn(4)))}
	if x.To = (x.Rep + 1 + w.rnd.Intn(n-1)) % n; w.rnd.Intn(20) == 0 {
		x.To = w.rnd.Intn(n+2) - 1
	}
	switch x.Kind {
	case api.SPut:
		if x.Field = w.rnd.Intn(5); x.Field > 0 {
			x.Text = []string{"red fox", "the red hens", "fox fox", "", "blue", "red hens and a blue fox, and what else there may be"}[w.rnd.Intn(6)]
		}
	case api.SDeliver, api.SLose, api.SDouble, api.SSpoil:
		for try := 0; try < 9 && w.Count(x.Rep, x.To) == 0; try++ {
			x.Rep, x.To = w.rnd.Intn(n), w.rnd.Intn(n)
		}
		x.N = w.rnd.Intn(max(1, w.Count(x.Rep, x.To)))
		x.At, x.X = w.rnd.Intn(300), w.rnd.Intn(256)
	case api.SCrash:
		x.X = -1
		for _, page := range w.Disk(x.Rep).Loose() {
			if w.rnd.Intn(2) == 0 {
				x.Keep = append(x.Keep, page)
			}
			if w.rnd.Intn(3) == 0 {
				x.X, x.At = page, w.rnd.Intn(130)
			}
		}
	case api.SFuse:
		x.N = w.rnd.Intn(30)
	case api.SQuery:
		x.Text, x.N = asked[w.rnd.Intn(len(asked))], 9
	}
	return x
}

// step does a step, and tells whether all is as it should be.
func (w *whole) step(t *testing.T, x api.Step) api.Errno {
	t.Helper()
	var was []api.State
	for i := range w.Size() {
		s, _ := w.State(i)
		was = append(was, s)
	}
	events := w.Events()
	a := w.Step(x)
	// What is refused changes nothing, but for whether one is up.
	if a.Err != api.OK {
		for i, s := range was {
			if now, e := w.State(i); e == api.OK && !docs.Same(now, s) {
				t.Fatalf("%v: error %d, and %v is %v", x, a.Err, s, now)
			}
		}
	}
	if now := w.Events(); (x.Kind == api.SPut || x.Kind == api.SDrop) && (a.Err == api.OK) != (len(now) == len(events)+1) {
		t.Fatalf("%v: error %d, and %d events are %d", x, a.Err, len(events), len(now))
	}
	for i := range w.Size() {
		w.look(t, i)
	}
	return a.Err
}

// look tells whether one that is up has, and answers, what it should.
func (w *whole) look(t *testing.T, i int) {
	t.Helper()
	s, e := w.State(i)
	if !oracle.Right(w.Cluster, i) {
		t.Fatalf("%d is wrong", i)
	}
	if e != api.OK {
		return
	}
	if !dots.Within(w.safe[i], s.Seen) || !dots.Within(w.Safe(i), s.Seen) {
		t.Fatalf("%d knew %v for good, and knows %v", i, w.safe[i], s.Seen)
	}
	w.safe[i] = dots.Join(w.safe[i], w.Safe(i))
	if p, _ := w.Past(i); !audit.Fine(s, p) {
		t.Fatal(audit.Text(audit.Look(s, p)))
	}
	known := oracle.Known(w.Events(), s.Seen)
	for _, x := range known { // with each event what whoever did it knew
		for _, d := range x.Gone {
			if !dots.Has(s.Seen, d) {
				t.Fatalf("%d knows %v, but not %v", i, x, d)
			}
		}
	}
	corpus := w.Corpus(i)
	if before, met := w.alike[s.Seen]; met {
		if !slices.Equal(corpus, before) {
			t.Fatalf("of %v one had %v, another one has %v", s.Seen, before, corpus)
		}
	}
	w.alike[s.Seen] = corpus
	answers := make([][]api.Hit, len(asked))
	for k, text := range asked {
		want, _ := oracle.Scan(oracle.Corpus(known), text, 9)
		a := w.Step(api.Step{Kind: api.SQuery, Rep: i, Text: text, N: 9})
		if a.Err != api.OK || !slices.Equal(a.Hits, want) {
			t.Fatalf("%s: %d answers %v, not %v", text, i, a.Hits, want)
		}
		answers[k] = a.Hits
	}
	if before, met := w.told[s.Seen]; met && !slices.EqualFunc(before, answers, slices.Equal[[]api.Hit]) {
		t.Fatalf("of %v one told %v, another one tells %v", s.Seen, before, answers)
	}
	w.told[s.Seen] = answers
}

// P27.4, P28.2, P28.3, and P1, P2, P4 and P5 of the whole.
func TestWhole(t *testing.T) {
	for seed := range int64(25) {
		rnd := rand.New(rand.NewSource(seed))
		n := 2 + int(seed)%4
		w := begun(t, rnd, n, 300+rnd.Intn(300))
		for range 150 {
			w.step(t, w.some())
		}
		if !w.Calm(n) || !oracle.Equal(w.Cluster) {
			t.Fatal("not all know the same in the end")
		}
		for _, e := range w.Events() {
			if !dots.Has(oracle.Union(w.Cluster), e.Dot) {
				t.Fatalf("%v is left, but not known", e)
			}
		}
		if !w.Calm(1) {
			t.Fatal("one round more")
		}
		for i := range n {
			w.step(t, api.Step{Kind: api.SCollect, Rep: i})
			if w.Drops(i) != 0 {
				t.Fatalf("%d keeps %d removals", i, w.Drops(i))
			}
		}
		for range 20 {
			w.step(t, w.some())
		}
	}
}

// P1, P4: so it is where there is little room.
func TestNarrow(t *testing.T) {
	full := 0
	for seed := range int64(12) {
		rnd := rand.New(rand.NewSource(100 + seed))
		w := begun(t, rnd, 2+rnd.Intn(3), 8+rnd.Intn(20))
		for range 150 {
			if w.step(t, w.some()) == api.EFULL {
				full++
			}
		}
		w.Calm(3)
		for i := range w.Size() {
			w.look(t, i)
		}
	}
	if full == 0 {
		t.Error("there was room for all")
	}
}

// P3: an old message makes nothing visible of what was taken away, and was let go.
func TestOldMessage(t *testing.T) {
	c, _ := cluster.New(2, 100)
	does(t, c, api.Step{Kind: api.SPut, Rep: 0, Doc: "a", Field: 1, Text: "red"}, api.Step{Kind: api.SSend, Rep: 0, To: 1})
	for range 3 { // each of them once more
		does(t, c, api.Step{Kind: api.SDouble, Rep: 0, To: 1})
	}
	does(t, c, api.Step{Kind: api.SDeliver, Rep: 0, To: 1}, api.Step{Kind: api.SDrop, Rep: 1, Doc: "a"})
	send := func(from, to int) {
		t.Helper()
		does(t, c, api.Step{Kind: api.SSend, Rep: from, To: to})
		does(t, c, api.Step{Kind: api.SDeliver, Rep: from, To: to, N: c.Count(from, to) - 1})
	}
	send(1, 0)
	send(0, 1)
	send(1, 0)
	for i := range 2 {
		does(t, c, api.Step{Kind: api.SCollect, Rep: i})
		if c.Drops(i) != 0 {
			t.Fatal(i, "all have heard of it")
		}
	}
	does(t, c, api.Step{Kind: api.SDeliver, Rep: 0, To: 1}, api.Step{Kind: api.SSave, Rep: 1}, api.Step{Kind: api.SCrash, Rep: 1, X: -1}, api.Step{Kind: api.SStart, Rep: 1})
	does(t, c, api.Step{Kind: api.SDeliver, Rep: 0, To: 1}, api.Step{Kind: api.SDeliver, Rep: 0, To: 1})
	for i := range 2 {
		if len(c.Corpus(i)) != 0 || c.Drops(i) != 0 || !oracle.Right(c, i) {
			t.Fatal(i, c.Corpus(i), c.Drops(i))
		}
	}
}

// The examples of the whole: 2, 3 and 6.
func TestExamples(t *testing.T) {
	c, _ := cluster.New(2, 100)
	step := func(kind, rep int, doc string, field int, text string) api.Step {
		return api.Step{Kind: kind, Rep: rep, To: 1 - rep, Doc: doc, Field: field, Text: text}
	}
	put := func(rep, field int, text string) api.Step { return step(api.SPut, rep, "a", field, text) }
	tell := func(rep int) {
		t.Helper()
		does(t, c, step(api.SSend, rep, "", 0, ""), step(api.SDeliver, rep, "", 0, ""))
	}
	have := func(want ...api.Doc) {
		t.Helper()
		for i := range 2 {
			if got := c.Corpus(i); !slices.Equal(got, want) || !oracle.Right(c, i) {
				t.Fatal(i, got)
			}
		}
	}
	does(t, c, put(0, 1, "red"))
	tell(0)
	does(t, c, step(api.SDrop, 0, "a", 0, ""), put(1, 2, "body"))
	tell(0)
	tell(1)
	have(doc("a", "", "body"))
	does(t, c, put(0, 1, "of 0"), put(1, 1, "of 1"))
	tell(0)
	tell(1)
	have(doc("a", "of 1", "body"))
	does(t, c, api.Step{Kind: api.SSync, Rep: 0}, put(0, 3, "lost"), api.Step{Kind: api.SCrash, Rep: 0, X: -1}, api.Step{Kind: api.SStart, Rep: 0}, put(0, 4, "note"))
	tell(0)
	have(doc("a", "of 1", "body", "", "note"))
	l := c.Events()
	if last := l[len(l)-1]; last.Dot != dot(0, 9) {
		t.Fatal(last)
	}
}
