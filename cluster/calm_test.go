package cluster_test

import (
	"math"
	"testing"

	"scholia/api"
	"scholia/cluster"
)

// P27.3: Calm lets all come up, loses what is on its way, and goes so many rounds.
func TestCalm(t *testing.T) {
	c := begun(t, 3, 100)
	does(t, c, put(0, "a", 1, "red"), api.Step{Kind: api.SSend, Rep: 0, To: 1}, api.Step{Kind: api.SSend, Rep: 0, To: 2}, api.Step{Kind: api.SSend, Rep: 2, To: 0})
	does(t, c, put(0, "b", 1, "red"), put(1, "c", 1, "red"), put(2, "d", 1, "red"))
	does(t, c, crash(2), fuse(0, 0), fuse(1, 0))
	tells(t, c, of(api.SSync, 0), api.EDEAD) // 1 is up, with a fuse; what 0 and 2 did last is lost
	if !c.Calm(0) {
		t.Fatal("it did not go well")
	}
	knows(t, c, 0, vector(1))
	knows(t, c, 1, vector(0, 1))
	knows(t, c, 2, vector())
	happened(t, c, dot(0, 1), dot(1, 1))
	for from := range 3 {
		for to := range 3 {
			if c.Count(from, to) != 0 {
				t.Fatal("something is on its way")
			}
		}
		if c.Disk(from).Dead() {
			t.Fatal(from)
		}
	}
	does(t, c, of(api.SSync, 1)) // its fuse is gone
	if !c.Calm(-1) || !c.Calm(math.MinInt) {
		t.Fatal("without a round")
	}
	knows(t, c, 1, vector(0, 1))
	// In a round all that a lesser one tells a greater one tells on.
	if !c.Calm(1) {
		t.Fatal("a round")
	}
	for i := range 3 {
		knows(t, c, i, vector(1, 1))
	}
	// What the greatest one does is with the others behind one round, and they are known to have it behind two.
	does(t, c, drop(2, "a"))
	if !c.Calm(1) {
		t.Fatal("a round")
	}
	for i := range 3 {
		knows(t, c, i, vector(1, 1, 9)) // behind a crash its numbers go on above the top
		does(t, c, of(api.SCollect, i))
	}
	if c.Drops(0) == 0 {
		t.Fatal("it can't know that all have that")
	}
	if !c.Calm(1) {
		t.Fatal("a round")
	}
	for i := range 3 {
		does(t, c, of(api.SCollect, i))
		if c.Drops(i) != 0 || c.Stable(i) != vector(1, 1, 9) {
			t.Fatal(i, c.Stable(i))
		}
		if c.Count(i, (i+1)%3) != 0 {
			t.Fatal("something is on its way")
		}
	}
	if !c.Calm(math.MaxInt) {
		t.Fatal("many rounds")
	}
}

// narrow is a cluster of which 1 has no room for what 0 has.
func narrow(t *testing.T) *cluster.Cluster {
	t.Helper()
	c := begun(t, 3, 12)
	text := string(make([]byte, 150))
	does(t, c, put(0, "a", 1, text), put(1, "b", 1, text))
	for {
		if a := c.Step(put(1, "b", 1, "x")); a.Err == api.EFULL {
			return c
		} else if a.Err != api.OK {
			t.Fatal(a.Err)
		}
	}
}

// P27.3: where one does not tell OK, Calm tells so, and goes on.
func TestCalmFails(t *testing.T) {
	c := narrow(t)
	does(t, c, crash(2))
	if c.Calm(1) {
		t.Fatal("it went well")
	}
	s, e := c.State(2)
	if e != api.OK || s.Seen[0] != 1 {
		t.Fatal("it did not go on", s.Seen, e)
	}
	if !c.Calm(0) {
		t.Fatal("without a round")
	}
}
