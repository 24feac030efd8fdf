package console_test

import (
	"slices"
	"testing"

	"scholia/console"
)

// The document's ten examples of the whole, as lines.
func TestTenExamples(t *testing.T) {
	for what, lines := range map[string][]string{
		"a document": {"put 0 a 1 red%20fox : ok", "send 0 1 : ok", "deliver 0 1 0 : ok", "query 0 5 fox : a=1", "query 1 5 fox : a=1"},
		"taken away and written to": {
			"put 0 a 1 red : ok", "calm 3 : true", "drop 0 a : ok", "put 1 a 2 runs : ok", "show 0 : none", "show 1 : a/red/runs/%/%",
			"calm 3 : true", "show 0 : a/%/runs/%/%", "show 1 : a/%/runs/%/%", "query 0 5 red : none", "query 1 5 run : a=1",
		},
		"both write": {
			"put 0 a 1 red : ok", "put 1 a 1 blue : ok", "calm 3 : true", "show 0 : a/blue/%/%/%", "show 1 : a/blue/%/%/%",
			"put 0 b 1 red : ok", "put 0 b 1 fox : ok", "put 1 b 1 hen : ok", "calm 3 : true", "show 0 : a/blue/%/%/% b/fox/%/%/%", "show 1 : a/blue/%/%/% b/fox/%/%/%",
		},
		"twice": {
			"put 0 a 1 red : ok", "send 0 1 : ok", "double 0 1 0 : ok", "deliver 0 1 0 : ok", "show 1 : a/red/%/%/%", "drop 1 a : ok", "deliver 0 1 0 : ok", "show 1 : none", "check : right",
		},
		"turned": {
			"put 0 a 1 red : ok", "send 0 1 : ok", "spoil 0 1 0 7 1 : ok", "deliver 0 1 0 : error 6", "show 1 : none", "deliver 0 1 0 : error 10", "send 0 1 : ok", "deliver 0 1 0 : ok", "show 1 : a/red/%/%/%", "check : right equal",
		},
		"power goes": {
			"put 0 a 1 red : ok", "sync 0 : ok", "put 0 b 1 blue : ok", "fuse 0 0 : ok", "sync 0 : error 9", "show 0 : error 16", "crash 0 -1 0 : ok", "start 0 : ok", "show 0 : a/red/%/%/%", "put 0 c 1 hen : ok", "show 0 : a/red/%/%/% c/hen/%/%/%", "check : right",
		},
		"let go": {
			"put 0 a 1 red : ok", "send 0 1 : ok", "double 0 1 0 : ok", "deliver 0 1 0 : ok", "drop 1 a : ok", "calm 0 : true", "send 0 1 : ok", "drop 0 a : ok", "send 0 1 : ok", "double 0 1 0 : ok", "deliver 0 1 1 : ok",
			"send 1 0 : ok", "deliver 1 0 0 : ok", "collect 0 : ok", "collect 1 : ok", "deliver 0 1 0 : ok", "deliver 0 1 0 : ok", "show 0 : none", "show 1 : none", "check : right equal",
		},
		"queries": {
			"put 0 a 1 red%20fox : ok", "put 0 b 2 fox%20red : ok", "put 0 c 1 foxglove : ok", "put 0 d 1 fox%20hen : ok",
			"query 0 5 title:fox%20-hen : a=2", "query 0 5 fox*%20-red : c=1 d=1", "query 0 5 \"red%20fox\" : a=3", "query 0 5 fox%20-hen : a=1 b=1", "query 0 5 -fox : c=0", "query 0 5 -hen : a=0 b=0 c=0",
		},
		"segments": {
			"put 0 a 1 red : ok", "flush 0 : ok", "put 0 b 1 red : ok", "flush 0 : ok", "put 0 c 1 red : ok", "flush 0 : ok", "put 0 d 1 red%20fox : ok", "flush 0 : ok", "query 0 9 red%20|%20fox : d=4 a=1 b=1 c=1",
			"put 0 e 1 blue : ok", "flush 0 : ok", "query 0 9 red%20|%20fox : d=4 a=1 b=1 c=1", "compact 0 : ok", "query 0 9 red%20|%20fox : d=4 a=1 b=1 c=1",
		},
	} {
		s := begun(t, "cluster 2 200")
		t.Run(what, func(t *testing.T) { tells(t, s, lines...) })
	}
}

// The tenth one: one has a long history, the other one came up just now.
func TestHistory(t *testing.T) {
	s := begun(t, "cluster 3 200")
	for range 10 {
		tells(t, s, "put 0 a 1 red%20fox : ok", "flush 0 : ok", "put 0 b 2 fox : ok", "flush 0 : ok", "drop 0 b : ok", "put 0 c 1 red%20hens : ok", "flush 0 : ok")
	}
	tells(t, s, "crash 2 -1 0 : ok", "start 2 : ok", "calm 3 : true", "check : right equal", "compact 1 : ok")
	for _, q := range []string{"red", "fox", "hen", "fox*%20|%20body:fox", "-red", "\"red%20hen\""} {
		var all []string
		for _, rep := range []string{"0", "1", "2"} {
			all = append(all, s.Do("query "+rep+" 9 "+q))
		}
		if len(slices.Compact(all)) != 1 || all[0] == "error 13" {
			t.Error(q, all)
		}
	}
}

// P30.3: the beginning of a text tells the beginning, line by line.
func TestBeginnings(t *testing.T) {
	lines := []string{"x", "cluster 2 60", "put 0 a 1 red", "send 0 1", "deliver 0 1 0", "query 1 5 red", "drop 1 a", "check", "calm 2", "check", "show 0"}
	whole, text := "", ""
	for _, line := range lines {
		text += line + "\n"
		got := console.Run(text)
		if len(got) <= len(whole) || got[:len(whole)] != whole {
			t.Fatalf("%q, and then %q", whole, got)
		}
		whole = got
	}
	if whole != "error 16\nok\nok\nok\nok\na=1\nok\nright\ntrue\nright equal\nnone\n" {
		t.Errorf("%q", whole)
	}
}
