package console_test

import (
	"strings"
	"testing"

	"scholia/console"
)

// tells does lines in a session, each of which is to be told so: "line : answer".
func tells(t *testing.T, s *console.Session, lines ...string) {
	t.Helper()
	for _, l := range lines {
		line, want, ok := strings.Cut(l, " : ")
		if !ok {
			t.Fatal(l)
		}
		if got := s.Do(line); got != want {
			t.Fatalf("%q: %q, not %q", line, got, want)
		}
	}
}

// begun is a session with a cluster.
func begun(t *testing.T, line string) *console.Session {
	t.Helper()
	s := console.New()
	tells(t, s, line+" : ok")
	return s
}

// each tells whether all lines are told the same.
func each(t *testing.T, s *console.Session, want string, lines ...string) {
	t.Helper()
	for _, line := range lines {
		if got := s.Do(line); got != want {
			t.Errorf("%q: %q, not %q", line, got, want)
		}
	}
}

// ofStep is a line of each kind of steps.
var ofStep = []string{
	"put 0 a 1 red", "drop 0 a", "sync 0", "send 0 1", "deliver 0 1 0", "lose 0 1 0", "double 0 1 0", "spoil 0 1 0 3 4", "crash 0 -1 0", "crash 0 -1 0 1 2",
	"start 0", "fuse 0 -1", "flush 0", "compact 0", "collect 0", "save 0", "query 0 5 red",
}
