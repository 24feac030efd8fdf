package console_test

import (
	"strings"
	"testing"

	"scholia/api"
	"scholia/cluster"
	"scholia/console"
)

// P30.1: the chapter's example.
func TestExample(t *testing.T) {
	tells(t, console.New(), "cluster 2 60 : ok", "put 0 a 1 red : ok", "query 0 5 red : a=1")
	if got := console.Run("cluster 2 60\nput 0 a 1 red\nquery 0 5 red"); got != "ok\nok\na=1\n" {
		t.Errorf("%q", got)
	}
}

// P30.1: lines that ask for a cluster.
func TestBegin(t *testing.T) {
	each(t, console.New(), "error 17", "cluster", "cluster ", "cluster 2", "cluster 2 60 ", "cluster 2 60 1", "cluster 2  60", "cluster a b c", "cluster 9 9 9", "cluster   ")
	each(t, console.New(), "error 1",
		"cluster 1 60", "cluster 6 60", "cluster 0 60", "cluster -2 60", "cluster 02 60", "cluster +2 60", "cluster 2. 60", "cluster a 60", "cluster 64 60", "cluster 99999999999999999999 60", "cluster 2\n 60", "cluster 2 60\n", "cluster % 60",
		"cluster 2 7", "cluster 2 0", "cluster 2 -60", "cluster 2 1001", "cluster 2 4096", "cluster 2 060", "cluster 2 +60", "cluster 2 6_0", "cluster 2 0x3c", "cluster 2 b", "cluster 2 18446744073709551676", "cluster 1 1", "cluster 2 ", "cluster  60", "cluster  ")
	for _, line := range []string{"cluster 2 8", "cluster 5 1000", "cluster 3 60", "cluster 4 999"} {
		s := console.New()
		if s.Cluster() != nil {
			t.Fatal("there is none yet")
		}
		each(t, s, "error 16", "check")
		each(t, s, "error 1", "cluster 2 7")
		tells(t, s, line+" : ok", "check : right equal")
		c := s.Cluster()
		// There is one, whatever is asked for.
		each(t, s, "error 17", line, "cluster 3 100", "cluster 9 9", "cluster x y", "cluster", "cluster 2", "cluster 2 60 1")
		if s.Cluster() != c {
			t.Fatal("it is another one")
		}
		n, size := int(line[8]-'0'), map[string]int{"8": 8, "1000": 1000, "60": 60, "999": 999}[line[10:]]
		if c.Size() != n || c.Disk(n-1).Size() != size {
			t.Error(line, c.Size(), c.Disk(n-1).Size())
		}
	}
}

// P30.1: without a cluster nothing goes on, whatever the line.
func TestNoCluster(t *testing.T) {
	s := console.New()
	each(t, s, "error 16", ofStep...)
	each(t, s, "error 16", "check", "show 0", "show 9", "show", "calm 1", "calm x", "", " ", "x", "\n", " cluster 2 60", "Cluster 2 60", "clusters 2 60", "cluster\t2 60", "cluster\n2 60", strings.Repeat("x", 1<<16))
	if s.Cluster() != nil {
		t.Error("a cluster")
	}
}

// P30.1: lines that say nothing.
func TestNoLine(t *testing.T) {
	s := begun(t, "cluster 2 60")
	each(t, s, "error 17",
		"", " ", "x", "check ", "check 0", " check", "Check", "checks", "check\n", "put", "put 0 a 1", "put 0 a 1 red fox", "put 00 a 1 red", "sync 0 ", "sync -2", "query 0 5 ", "query 0 5 %zz", "crash 0", "sync 0\n", "sync 1073741825",
		"show", "show ", "show 6", "show -1", "show 00", "show 01", "show +1", "show a", "show 0 0", "show 0 ", "show  0", "shows 0", "show 0\n", "show 99999999999999999999", " show 0",
		"calm", "calm ", "calm 6", "calm -1", "calm 00", "calm 1 1", "calm 1 ", "calm x", "calms 1", " calm 1",
		"query 0 5 "+strings.Repeat("a", 231), strings.Repeat("a", 1<<16), strings.Repeat(" ", 1<<16))
	tells(t, s, "query 0 5 "+strings.Repeat("a", 120)+" : none", "check : right equal", "show 0 : none")
}

// P30.1: what steps are told.
func TestSteps(t *testing.T) {
	s := begun(t, "cluster 3 60")
	tells(t, s,
		"put 0 a 1 red%20fox : ok", "put 0 A 1 red : error 1", "put 0 a 5 red : error 1", "put 0 a 0 % : ok", "put 0 a 1 %ff : error 7", "put 0 a 1 "+strings.Repeat("r", 161)+" : error 5", "put 3 a 1 red : error 15", "put -1 a 1 red : error 15",
		"drop 0 b : error 10", "send 0 0 : error 15", "send 0 3 : error 15", "send 0 1 : ok", "deliver 0 1 1 : error 10", "deliver 0 1 -1 : error 10", "deliver 0 1 0 : ok",
		"send 0 1 : ok", "double 0 1 0 : ok", "lose 0 1 0 : ok", "spoil 0 1 0 5 1 : ok", "deliver 0 1 0 : error 6", "start 0 : error 1",
		"flush 0 : ok", "compact 0 : ok", "collect 0 : ok", "save 0 : ok", "sync 0 : ok", "fuse 0 0 : ok", "sync 0 : error 9", "sync 0 : error 16", "start 0 : error 9", "crash 0 -1 0 : ok", "sync 0 : error 16", "query 0 5 red : error 16", "start 0 : ok",
		"query 1 5 red : a=1", "query 2 5 red : none", "query 1 0 red : none", "query 1 -1 red : none", "query 1 5 ( : error 13", "query 1 5 % : error 13", "query 1 5 ((((((((a : error 14", "query 1 5 %ff : error 7", "query 1 5 "+strings.Repeat("a", 121)+" : error 5", "query 3 5 red : error 15")
	c := s.Cluster()
	if len(c.Events()) != 2 || c.Count(0, 1) != 0 {
		t.Error(c.Events())
	}
	// What the cluster is told otherwise the session tells.
	c.Step(api.Step{Kind: api.SPut, Rep: 2, Doc: "z", Field: 4, Text: "hen"})
	tells(t, s, "query 2 5 hen : z=1", "show 2 : z/%/%/%/hen")
}

// P30.1: hits are told in their order, as many as were asked for.
func TestHits(t *testing.T) {
	s := begun(t, "cluster 2 200")
	tells(t, s, "put 0 b 1 red : ok", "put 0 a 1 red : ok", "put 0 c-9 1 red%20red%20fox : ok", "put 0 d 2 hen : ok")
	a := s.Cluster().Step(api.Step{Kind: api.SQuery, Text: "red | fox", N: 9})
	if a.Err != api.OK || len(a.Hits) != 3 || a.Hits[0].Id != "c-9" || a.Hits[0].Score < 2 {
		t.Fatal(a)
	}
	tells(t, s, "query 0 9 red : c-9=2 a=1 b=1", "query 0 2 red : c-9=2 a=1", "query 0 1 red : c-9=2", "query 0 0 red : none", "query 0 9 -red : d=0", "query 0 9 fox%20-red : none", "query 0 1073741824 red : c-9=2 a=1 b=1")
}

// P30.1: show.
func TestShow(t *testing.T) {
	s := begun(t, "cluster 3 200")
	tells(t, s, "show 0 : none", "show 2 : none", "show 3 : error 15", "show 5 : error 15",
		"put 0 b 2 red%20fox%25 : ok", "put 0 a 0 % : ok", "put 0 c-1 1 t : ok", "put 0 c-1 2 b : ok", "put 0 c-1 3 %0a : ok", "put 0 c-1 4 n/ : ok",
		"show 0 : a/%/%/%/% b/%/red%20fox%25/%/% c-1/t/b/%0a/n/", "show 1 : none", "drop 0 b : ok", "show 0 : a/%/%/%/% c-1/t/b/%0a/n/",
		"crash 1 -1 0 : ok", "show 1 : error 16", "start 1 : ok", "show 1 : none", "drop 0 a : ok", "drop 0 c-1 : ok", "show 0 : none")
	five := begun(t, "cluster 5 60")
	tells(t, five, "show 4 : none", "show 5 : error 15", "show 6 : error 17")
}

// P30.1: check.
func TestCheck(t *testing.T) {
	s := begun(t, "cluster 3 60")
	tells(t, s, "check : right equal", "put 0 a 1 red : ok", "check : right", "send 0 1 : ok", "deliver 0 1 0 : ok", "check : right", "send 0 2 : ok", "deliver 0 2 0 : ok", "check : right equal",
		"put 2 a 1 blue : ok", "check : right", "crash 2 -1 0 : ok", "check : right equal", "crash 0 -1 0 : ok", "crash 1 -1 0 : ok", "check : right equal", "start 2 : ok", "check : right equal", "drop 2 a : ok", "start 0 : ok", "check : right")
}

// P30.1: calm.
func TestCalm(t *testing.T) {
	s := begun(t, "cluster 3 200")
	tells(t, s, "calm 0 : true", "put 0 a 1 red : ok", "put 1 a 1 blue : ok", "put 2 b 1 hen : ok", "send 0 1 : ok", "crash 2 -1 0 : ok", "fuse 1 0 : ok", "calm 0 : true", "check : right", "deliver 0 1 0 : error 10", "put 2 b 1 hen : ok",
		"calm 1 : true", "show 0 : a/blue/%/%/% b/hen/%/%/%", "calm 3 : true", "check : right equal", "show 2 : a/blue/%/%/% b/hen/%/%/%", "calm 5 : true")
	// Of one that has no room for what another one tells.
	s = begun(t, "cluster 2 12")
	text := strings.Repeat("r", 150)
	tells(t, s, "put 0 a 1 "+text+" : ok", "put 1 b 1 "+text+" : ok")
	for s.Do("put 1 b 1 x") != "error 8" {
		if s.Cluster().Safe(1)[1] > 100 {
			t.Fatal("it is never full")
		}
	}
	tells(t, s, "calm 1 : false", "calm 0 : true", "check : right")
}

// P30.1: a session does 120 lines, whatever they are.
func TestMany(t *testing.T) {
	for _, line := range []string{"check", "", "x", "cluster 9 9", "query 0 5 red", "put 0 a 1 red", "calm 0"} {
		for _, first := range []string{"cluster 2 60", "cluster", ""} {
			s := console.New()
			s.Do(first)
			for range 118 {
				s.Do(line)
			}
			last := s.Do("show 0") // the 120th line
			if last == "error 5" || last == "error 2" {
				t.Fatal(line, first, last)
			}
			c := s.Cluster()
			var was []api.Event
			if c != nil {
				was = c.Events()
			}
			each(t, s, "error 5", "put 0 b 1 red")
			each(t, s, "error 2", "put 0 b 1 red", "check", "", "cluster 2 60", "cluster", "x", "show 0", "put 0 b 1 red")
			for range 300 {
				each(t, s, "error 2", "put 0 b 1 red")
			}
			if s.Cluster() != c || c != nil && len(c.Events()) != len(was) {
				t.Error("something was done")
			}
		}
	}
}

// P30.1: sessions that New did not make.
func TestNotMade(t *testing.T) {
	var none *console.Session
	each(t, none, "error 2", "cluster 2 60", "check", "", "x", "show 0", "put 0 a 1 red")
	if none.Cluster() != nil {
		t.Error("a cluster")
	}
	s := &console.Session{}
	if s.Cluster() != nil {
		t.Error("a cluster")
	}
	tells(t, s, "check : error 16", "cluster 1 60 : error 1", "cluster 2 60 : ok", "put 0 a 1 red : ok", "query 0 5 red : a=1")
	for range 115 {
		s.Do("check")
	}
	tells(t, s, "check : error 5", "check : error 2")
}

// Two sessions know nothing of one another.
func TestApart(t *testing.T) {
	a, b := begun(t, "cluster 2 60"), begun(t, "cluster 2 60")
	tells(t, a, "put 0 a 1 red : ok")
	tells(t, b, "show 0 : none", "put 0 b 1 red : ok")
	tells(t, a, "show 0 : a/red/%/%/%")
	var c *cluster.Cluster = a.Cluster()
	if c == b.Cluster() || c == nil {
		t.Error("one cluster")
	}
}
