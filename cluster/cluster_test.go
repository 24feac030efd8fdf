package cluster_test

import (
	"bytes"
	"math"
	"slices"
	"testing"

	"scholia/api"
	"scholia/cluster"
	"scholia/docs"
	"scholia/journal"
	"scholia/past"
)

// P27.1: which clusters there may be.
func TestNew(t *testing.T) {
	for _, x := range []struct{ n, size int }{
		{1, 100}, {0, 100}, {-1, 100}, {65, 100}, {math.MaxInt, 100}, {math.MinInt, 100},
		{2, 0}, {2, -1}, {2, 4097}, {2, math.MaxInt}, {2, math.MinInt}, {2, 7}, {65, 0},
	} {
		if c, e := cluster.New(x.n, x.size); c != nil || e != api.EARG {
			t.Errorf("%v: error %d", x, e)
		}
	}
	for _, x := range []struct{ n, size int }{{2, 8}, {3, 4096}, {64, 20}} {
		c := begun(t, x.n, x.size)
		for i := range x.n {
			knows(t, c, i, vector())
			p, e := c.Past(i)
			if e != api.OK || !past.Same(p, api.Past{}) || c.Disk(i).Size() != x.size || len(c.Disk(i).Loose()) != 0 {
				t.Fatal(i, p, e)
			}
		}
		happened(t, c)
	}
}

// P27.2: the chapter's example.
func TestExample(t *testing.T) {
	c := begun(t, 2, 60)
	does(t, c, put(0, "a", 1, "red"), api.Step{Kind: api.SSend, Rep: 0, To: 1}, onWay(api.SDeliver, 0, 1, 0))
	knows(t, c, 1, vector(1))
	finds(t, c, 1, "red", "a")
}

// P27.2: edits, and what they are told.
func TestEdits(t *testing.T) {
	c := begun(t, 3, 100)
	does(t, c, put(1, "a", 1, "red fox"), put(0, "b", 0, ""), put(1, "a", 1, "blue"), drop(1, "a"), put(1, "c", 4, "red"))
	happened(t, c, dot(1, 1), dot(0, 1), dot(1, 2), dot(1, 3), dot(1, 4))
	for _, x := range []struct {
		step api.Step
		want api.Errno
	}{
		{put(1, "A", 1, ""), api.EARG}, {put(1, "a", 5, ""), api.EARG}, {put(1, "a", 1, "\xff"), api.EUTF}, {put(1, "a", 1, string(make([]byte, 161))), api.ELONG},
		{drop(1, "b"), api.ENONE}, {drop(0, ""), api.ENONE},
	} {
		tells(t, c, x.step, x.want)
	}
	happened(t, c, dot(1, 1), dot(0, 1), dot(1, 2), dot(1, 3), dot(1, 4))
	l := c.Events()
	want := api.Event{Dot: dot(1, 3), Time: 3, Kind: api.Drop, Doc: "a", Gone: []api.Dot{dot(1, 2)}}
	if !past.SameEvents(l[3:4], []api.Event{want}) {
		t.Fatal(l[3])
	}
	p, _ := c.Past(1)
	if !past.SameEvents(p.Events, []api.Event{l[0], l[2], l[3], l[4]}) || c.Drops(1) != 1 || c.Drops(0) != 0 {
		t.Fatal(p)
	}
	if l := c.Corpus(1); !slices.Equal(l, []api.Doc{{Id: "c", Text: [4]string{3: "red"}}}) {
		t.Fatal(l)
	}
	if l := c.Corpus(0); !slices.Equal(l, []api.Doc{{Id: "b"}}) {
		t.Fatal(l)
	}
}

// P27.2: steps of replicas that there are not, or that are not up.
func TestNobody(t *testing.T) {
	c := begun(t, 3, 60)
	for _, rep := range []int{-1, 3, 64, math.MaxInt, math.MinInt} {
		for _, x := range append(ofReplica(rep, 0), crash(rep), of(api.SStart, rep), fuse(rep, 3)) {
			tells(t, c, x, api.EPEER)
		}
		down(t, c, rep, api.EPEER)
		if c.Disk(rep) != nil {
			t.Fatal(rep)
		}
	}
	tells(t, c, of(api.SStart, 1), api.EARG)
	does(t, c, crash(1))
	for range 2 {
		for _, x := range ofReplica(1, 0) {
			tells(t, c, x, api.EDOWN)
		}
		tells(t, c, api.Step{Kind: api.SSend, Rep: 1, To: 9}, api.EDOWN)
		down(t, c, 1, api.EDOWN)
		if c.Disk(1).Size() != 60 {
			t.Fatal("its device is there")
		}
	}
	happened(t, c)
	does(t, c, fuse(1, 3), crash(1, 1, 2, 3), of(api.SStart, 1))
	knows(t, c, 1, vector())
	tells(t, c, of(api.SStart, 1), api.EARG)
	for _, kind := range []int{0, -1, 17, math.MaxInt, math.MinInt} {
		for _, rep := range []int{0, -1, 9} {
			tells(t, c, of(kind, rep), api.EARG)
		}
	}
}

// P27.2: messages.
func TestMessages(t *testing.T) {
	c := begun(t, 3, 200)
	send := func(from, to int) api.Step { return api.Step{Kind: api.SSend, Rep: from, To: to} }
	for _, to := range []int{0, 3, -1} {
		tells(t, c, send(0, to), api.EPEER)
	}
	does(t, c, put(0, "a", 1, "red"), send(0, 1), put(0, "b", 1, "red"), send(0, 1), send(0, 2))
	if c.Count(0, 1) != 2 || c.Count(0, 2) != 1 || c.Count(1, 0) != 0 || c.Safe(0) != vector(2) {
		t.Fatal("sent")
	}
	if m := message(t, c, 0, 1, 0); m.Kind != api.MDelta || len(m.Events) != 1 {
		t.Fatal(m)
	}
	if m := message(t, c, 0, 1, 1); m.Kind != api.MDelta || len(m.Events) != 2 || m.Ack != vector(2) {
		t.Fatal(m)
	}
	for _, w := range [][2]int{{0, 0}, {0, 3}, {-1, 0}, {3, 1}} {
		for _, kind := range []int{api.SDeliver, api.SLose, api.SDouble, api.SSpoil} {
			tells(t, c, onWay(kind, w[0], w[1], 0), api.EPEER)
		}
		if b, e := c.Peek(w[0], w[1], 0); b != nil || e != api.EPEER || c.Count(w[0], w[1]) != 0 {
			t.Fatal(w, e)
		}
	}
	for _, kind := range []int{api.SDeliver, api.SLose, api.SDouble, api.SSpoil} {
		for _, k := range []int{2, -1, math.MaxInt} {
			tells(t, c, onWay(kind, 0, 1, k), api.ENONE)
		}
	}
	// The second one comes first; the first one, doubled, brings nothing new.
	does(t, c, onWay(api.SDouble, 0, 1, 0), onWay(api.SDeliver, 0, 1, 1))
	knows(t, c, 1, vector(2))
	does(t, c, onWay(api.SDeliver, 0, 1, 1), onWay(api.SDeliver, 0, 1, 0))
	knows(t, c, 1, vector(2))
	tells(t, c, onWay(api.SDeliver, 0, 1, 0), api.ENONE)
	knows(t, c, 2, vector())
	does(t, c, onWay(api.SLose, 0, 2, 0))
	tells(t, c, onWay(api.SDeliver, 0, 2, 0), api.ENONE)
	knows(t, c, 2, vector())

	// One that is spoilt is as if it were lost; by its lowest byte.
	does(t, c, send(0, 2), send(0, 2))
	was, _ := c.Peek(0, 2, 0)
	does(t, c, api.Step{Kind: api.SSpoil, Rep: 0, To: 2, N: 0, At: len(was) + 5, X: 0x1203})
	now, e := c.Peek(0, 2, 0)
	was[5] ^= 3
	if e != api.OK || !bytes.Equal(was, now) {
		t.Fatal(e)
	}
	tells(t, c, onWay(api.SDeliver, 0, 2, 0), api.ESUM)
	knows(t, c, 2, vector())
	does(t, c, api.Step{Kind: api.SSpoil, Rep: 0, To: 2, At: 3, X: 0x100}, onWay(api.SDeliver, 0, 2, 0))
	knows(t, c, 2, vector(2))

	// A way has room for forty.
	for range 40 {
		does(t, c, send(2, 1))
	}
	tells(t, c, send(2, 1), api.EFULL)
	tells(t, c, onWay(api.SDouble, 2, 1, 3), api.EFULL)
	if c.Count(2, 1) != 40 {
		t.Fatal(c.Count(2, 1))
	}
}

// P27.2: a message to one that is not up is lost; one of one that is not up comes.
func TestMessagesOfDown(t *testing.T) {
	c := begun(t, 3, 60)
	does(t, c, put(0, "a", 1, "red"), api.Step{Kind: api.SSend, Rep: 0, To: 1}, api.Step{Kind: api.SSend, Rep: 0, To: 1}, api.Step{Kind: api.SSend, Rep: 0, To: 2})
	does(t, c, crash(1))
	tells(t, c, onWay(api.SDeliver, 0, 1, 0), api.EDOWN)
	if c.Count(0, 1) != 1 {
		t.Fatal("it was not lost")
	}
	does(t, c, of(api.SStart, 1))
	knows(t, c, 1, vector())
	does(t, c, crash(0), onWay(api.SDouble, 0, 1, 0), onWay(api.SLose, 0, 1, 0), onWay(api.SDeliver, 0, 1, 0), onWay(api.SDeliver, 0, 2, 0))
	knows(t, c, 1, vector(1))
	knows(t, c, 2, vector(1))
	down(t, c, 0, api.EDOWN)
	does(t, c, of(api.SStart, 0))
	knows(t, c, 0, vector(1)) // what it told it has
}

// P27.2: Sync, Flush, Compact, Collect and Save.
func TestHouse(t *testing.T) {
	c := begun(t, 2, 60)
	send := func(from, to int) { // and it comes
		t.Helper()
		does(t, c, api.Step{Kind: api.SSend, Rep: from, To: to}, onWay(api.SDeliver, from, to, 0))
	}
	does(t, c, put(0, "a", 1, "red"), put(0, "b", 1, "red"), drop(0, "a"))
	if c.Safe(0) != vector() {
		t.Fatal(c.Safe(0))
	}
	does(t, c, of(api.SSync, 0))
	if c.Safe(0) != vector(3) {
		t.Fatal(c.Safe(0))
	}
	does(t, c, of(api.SFlush, 0), put(0, "c", 1, "red"), of(api.SFlush, 0), of(api.SCompact, 0), of(api.SCollect, 0))
	finds(t, c, 0, "red", "b", "c")
	if c.Drops(0) != 1 {
		t.Fatal("not all have it")
	}
	send(0, 1)
	send(1, 0)
	does(t, c, of(api.SCollect, 0), of(api.SCollect, 0))
	if c.Drops(0) != 0 || c.Stable(0) != vector(4) || c.Drops(1) != 1 {
		t.Fatal("all have it", c.Stable(0))
	}
	d := c.Disk(0)
	does(t, c, of(api.SSave, 0))
	l, e := journal.Open(c.Disk(0))
	if e != api.OK || len(l.Records()) != 0 {
		t.Fatal("not saved", e)
	}
	if l, e := journal.Open(d); e != api.OK || len(l.Records()) == 0 {
		t.Fatal("another device has changed", e)
	}
}

// P27.2: queries.
func TestQuery(t *testing.T) {
	c := begun(t, 2, 100)
	does(t, c, put(1, "a", 1, "red red fox"), put(1, "b", 1, "red"), put(1, "c", 2, "hen"))
	for _, x := range []struct {
		text string
		n    int
		want []api.Hit
	}{
		{"red", 5, []api.Hit{{Id: "a", Score: 2}, {Id: "b", Score: 1}}},
		{"red", 1, []api.Hit{{Id: "a", Score: 2}}},
		{"red", 0, nil}, {"red", -4, nil}, {"owl", 5, nil},
		{"title:hen | body:hen", 5, []api.Hit{{Id: "c", Score: 2}}},
	} {
		a := c.Step(api.Step{Kind: api.SQuery, Rep: 1, Text: x.text, N: x.n})
		if a.Err != api.OK || !slices.Equal(a.Hits, x.want) {
			t.Errorf("%s: %v, %d; not %v", x.text, a.Hits, a.Err, x.want)
		}
	}
	for text, want := range map[string]api.Errno{"(": api.ESYNTAX, "\xff": api.EUTF, "(((((((a)))))))": api.EDEEP, string(make([]byte, 121)): api.ELONG} {
		tells(t, c, api.Step{Kind: api.SQuery, Rep: 1, Text: text, N: 5}, want)
	}
	finds(t, c, 0, "red")
}

// P27.2: one whose device goes dead is not up from then on; what it did and had not for good is gone, when it starts.
func TestDead(t *testing.T) {
	for _, x := range []api.Step{put(0, "z", 1, "red"), drop(0, "a"), of(api.SSync, 0), {Kind: api.SSend, Rep: 0, To: 1}, of(api.SSave, 0), onWay(api.SDeliver, 1, 0, 0)} {
		c := begun(t, 2, 60)
		does(t, c, put(0, "a", 1, "red"), of(api.SSync, 0), put(0, "b", 1, "red"), put(1, "c", 1, "red"), api.Step{Kind: api.SSend, Rep: 1, To: 0})
		does(t, c, fuse(0, 0), of(api.SFlush, 0), of(api.SCollect, 0)) // these need no device
		finds(t, c, 0, "red", "a", "b")
		tells(t, c, x, api.EDEAD)
		down(t, c, 0, api.EDOWN)
		for _, x := range ofReplica(0, 1) {
			tells(t, c, x, api.EDOWN)
		}
		tells(t, c, of(api.SStart, 0), api.EDEAD)
		tells(t, c, fuse(0, -1), api.EDEAD)
		down(t, c, 0, api.EDOWN)
		happened(t, c, dot(0, 1), dot(0, 2), dot(1, 1))
		if !c.Disk(0).Dead() {
			t.Fatal("its device is not dead")
		}
		does(t, c, crash(0))
		happened(t, c, dot(0, 1), dot(0, 2), dot(1, 1))
		does(t, c, of(api.SStart, 0))
		happened(t, c, dot(0, 1), dot(1, 1))
		knows(t, c, 0, vector(1))
		does(t, c, put(0, "d", 1, "red"))
		happened(t, c, dot(0, 1), dot(1, 1), dot(0, 9))
	}
}

// P27.2: a start that is cut off.
func TestStartCutOff(t *testing.T) {
	c := begun(t, 2, 60)
	does(t, c, put(0, "a", 1, "red"), of(api.SSync, 0), put(0, "b", 1, "red"), crash(0))
	for n := range 4 {
		does(t, c, fuse(0, n))
		tells(t, c, of(api.SStart, 0), api.EDEAD)
		happened(t, c, dot(0, 1), dot(0, 2)) // it has not started
		down(t, c, 0, api.EDOWN)
		does(t, c, crash(0, 0, 1, 2, 3))
	}
	does(t, c, fuse(0, 9), of(api.SStart, 0))
	happened(t, c, dot(0, 1))
}

// P27.2: which pages a crash keeps, and which one is torn.
func TestCrash(t *testing.T) {
	c := begun(t, 2, 60)
	does(t, c, put(0, "a", 1, "red"), of(api.SSync, 0), put(0, "b", 1, "red"))
	loose := c.Disk(0).Loose()
	if len(loose) != 1 {
		t.Fatal(loose)
	}
	for _, x := range []struct {
		step api.Step
		want api.Vector
	}{
		{crash(0), vector(1)},
		{crash(0, loose...), vector(2)},
		{api.Step{Kind: api.SCrash, Rep: 0, X: loose[0], At: 127, Keep: loose}, vector(1)},
		{api.Step{Kind: api.SCrash, Rep: 0, X: loose[0], At: 128}, vector(2)},
		{api.Step{Kind: api.SCrash, Rep: 0, X: loose[0] + 1, At: 128}, vector(1)},
	} {
		c := begun(t, 2, 60)
		does(t, c, put(0, "a", 1, "red"), of(api.SSync, 0), put(0, "b", 1, "red"), x.step, of(api.SStart, 0))
		knows(t, c, 0, x.want)
	}
}

// P27.3: what a cluster tells is not its own.
func TestMemory(t *testing.T) {
	c := begun(t, 2, 60)
	does(t, c, put(0, "a", 1, "red"), drop(0, "a"), put(0, "b", 1, "red"), api.Step{Kind: api.SSend, Rep: 0, To: 1})
	l := c.Events()
	clear(l[1].Gone)
	clear(l[:cap(l)])
	s, _ := c.State(0)
	clear(s.Live)
	p, _ := c.Past(0)
	clear(p.Events[1].Gone)
	clear(p.Events)
	clear(c.Corpus(0))
	b, _ := c.Peek(0, 1, 0)
	clear(b)
	d := c.Disk(0)
	for i := range d.Size() {
		d.Write(i, nil)
	}
	d.Fuse(0)
	d.Sync()
	happened(t, c, dot(0, 1), dot(0, 2), dot(0, 3))
	if l := c.Events(); l[1].Gone[0] != dot(0, 1) {
		t.Fatal(l)
	}
	if p, _ := c.Past(0); len(p.Events) != 3 || p.Events[1].Gone[0] != dot(0, 1) {
		t.Fatal(p)
	}
	does(t, c, onWay(api.SDeliver, 0, 1, 0), crash(0), of(api.SStart, 0))
	for i := range 2 {
		knows(t, c, i, vector(3))
		finds(t, c, i, "red", "b")
		if s, _ := c.State(i); !slices.Equal(docs.Names(s), []string{"b"}) {
			t.Fatal(s)
		}
	}
	keep := []int{3, 4, 5}
	does(t, c, crash(0, keep...))
	if !slices.Equal(keep, []int{3, 4, 5}) {
		t.Fatal(keep)
	}
}

// Of a cluster that New did not make.
func TestNil(t *testing.T) {
	none, _ := cluster.New(1, 1)
	for _, c := range []*cluster.Cluster{nil, {}, new(cluster.Cluster), none} {
		for kind := -1; kind < 19; kind++ {
			for _, rep := range []int{0, -1} {
				tells(t, c, api.Step{Kind: kind, Rep: rep, To: 1}, api.ENIL)
			}
		}
		for _, i := range []int{-1, 0, 1} {
			down(t, c, i, api.ENIL)
			b, e := c.Peek(i, 0, 0)
			if b != nil || e != api.ENIL || c.Disk(i) != nil || c.Count(i, 0) != 0 || c.Calm(i) {
				t.Fatal(i, b, e)
			}
		}
		if c.Size() != 0 || len(c.Events()) != 0 {
			t.Fatal("a size")
		}
	}
}
