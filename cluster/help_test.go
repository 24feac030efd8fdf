package cluster_test

import (
	"slices"
	"testing"

	"scholia/api"
	"scholia/cluster"
	"scholia/docs"
	"scholia/past"
	"scholia/wire"
)

// begun is a new cluster.
func begun(t *testing.T, n, size int) *cluster.Cluster {
	t.Helper()
	c, e := cluster.New(n, size)
	if e != api.OK || c.Size() != n {
		t.Fatal(n, size, e)
	}
	return c
}

// tells tells whether a step tells an error, and nothing beside it.
func tells(t *testing.T, c *cluster.Cluster, x api.Step, want api.Errno) {
	t.Helper()
	if a := c.Step(x); a.Err != want || len(a.Hits) != 0 {
		t.Fatalf("%v: %d, %v; not %d", x, a.Err, a.Hits, want)
	}
}

// does does steps, each of which goes well.
func does(t *testing.T, c *cluster.Cluster, steps ...api.Step) {
	t.Helper()
	for _, x := range steps {
		tells(t, c, x, api.OK)
	}
}

// Steps, as they are written down.
func put(rep int, doc string, field int, text string) api.Step {
	return api.Step{Kind: api.SPut, Rep: rep, Doc: doc, Field: field, Text: text}
}

func drop(rep int, doc string) api.Step {
	return api.Step{Kind: api.SDrop, Rep: rep, Doc: doc}
}

func of(kind, rep int) api.Step {
	return api.Step{Kind: kind, Rep: rep}
}

func onWay(kind, from, to, k int) api.Step {
	return api.Step{Kind: kind, Rep: from, To: to, N: k}
}

func fuse(rep, n int) api.Step {
	return api.Step{Kind: api.SFuse, Rep: rep, N: n}
}

func crash(rep int, keep ...int) api.Step {
	return api.Step{Kind: api.SCrash, Rep: rep, X: -1, Keep: keep}
}

// finds tells whether a query of a replica finds just these documents.
func finds(t *testing.T, c *cluster.Cluster, rep int, text string, want ...string) {
	t.Helper()
	a := c.Step(api.Step{Kind: api.SQuery, Rep: rep, Text: text, N: 20})
	if a.Err != api.OK {
		t.Fatal(text, a.Err)
	}
	var got []string
	for _, h := range a.Hits {
		got = append(got, h.Id)
	}
	slices.Sort(got)
	if !slices.Equal(got, want) {
		t.Fatalf("%d: %s: %v, not %v", rep, text, got, want)
	}
}

// dot is an event's name.
func dot(rep, n int) api.Dot {
	return api.Dot{Rep: rep, N: n}
}

// happened tells whether just the events of these dots happened, in this order.
func happened(t *testing.T, c *cluster.Cluster, want ...api.Dot) {
	t.Helper()
	var got []api.Dot
	for _, e := range c.Events() {
		got = append(got, e.Dot)
	}
	if !slices.Equal(got, want) {
		t.Fatalf("%v happened, not %v", got, want)
	}
}

// vector is one of numbers.
func vector(n ...int) api.Vector {
	var v api.Vector
	copy(v[:], n)
	return v
}

// knows tells whether a replica knows just that.
func knows(t *testing.T, c *cluster.Cluster, rep int, want api.Vector) {
	t.Helper()
	s, e := c.State(rep)
	if e != api.OK || s.Seen != want {
		t.Fatalf("%d knows %v, %d; not %v", rep, s.Seen, e, want)
	}
}

// down tells whether a replica is not up, and tells nothing of itself.
func down(t *testing.T, c *cluster.Cluster, rep int, why api.Errno) {
	t.Helper()
	s, e := c.State(rep)
	p, e2 := c.Past(rep)
	if e != why || e2 != why || !docs.Same(s, api.State{}) || !past.Same(p, api.Past{}) {
		t.Fatalf("%d: %v, %d; %v, %d; not %d", rep, s, e, p, e2, why)
	}
	if len(c.Corpus(rep)) != 0 || c.Drops(rep) != 0 || c.Safe(rep) != vector() || c.Stable(rep) != vector() {
		t.Fatalf("%d is not up, and tells something", rep)
	}
}

// message is one that is on its way.
func message(t *testing.T, c *cluster.Cluster, from, to, k int) api.Msg {
	t.Helper()
	b, e := c.Peek(from, to, k)
	if e != api.OK {
		t.Fatal(from, to, k, e)
	}
	m, e := wire.Decode(b)
	if e != api.OK || m.From != from || m.To != to {
		t.Fatal(m, e)
	}
	return m
}

// ofReplica is a step of each kind that a replica does, and may do at once.
func ofReplica(rep, to int) []api.Step {
	return []api.Step{
		put(rep, "a", 1, "red"), drop(rep, "a"), of(api.SSync, rep), {Kind: api.SSend, Rep: rep, To: to}, of(api.SFlush, rep), of(api.SCompact, rep),
		of(api.SCollect, rep), of(api.SSave, rep), {Kind: api.SQuery, Rep: rep, Text: "red", N: 5},
	}
}
