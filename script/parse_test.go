package script_test

import (
	"math/rand"
	"slices"
	"strings"
	"testing"

	"scholia/api"
	"scholia/script"
)

// parses tells whether a text's steps are those of lines, of which so many were read ahead of an error.
func parses(t *testing.T, s string, lines []string, n int, want api.Errno) {
	t.Helper()
	l, at, e := script.Parse(s)
	if e != want || at != n || len(l) != len(lines) {
		t.Fatalf("%.99q: %v, %d, %d; not %v, %d, %d", s, l, at, e, lines, n, want)
	}
	for i, line := range lines {
		if got, e := script.Line(l[i]); got != line || e != api.OK {
			t.Fatalf("%.99q: %v, not %q", s, l[i], line)
		}
	}
}

// P29.3: texts of lines.
func TestParse(t *testing.T) {
	parses(t, "", nil, 0, api.OK)
	parses(t, "sync 0", []string{"sync 0"}, 1, api.OK)
	parses(t, "sync 0\n", []string{"sync 0"}, 1, api.OK)
	parses(t, "sync 0\nput 1 a 1 red%20fox\nsync 0", []string{"sync 0", "put 1 a 1 red%20fox", "sync 0"}, 3, api.OK)
	parses(t, "sync 0\nput 1 a 1 red%20fox\ncrash 0 -1 0 3\n", []string{"sync 0", "put 1 a 1 red%20fox", "crash 0 -1 0 3"}, 3, api.OK)
}

// P29.3: empty lines are passed over; they are lines that were read.
func TestParseEmpty(t *testing.T) {
	parses(t, "\n", nil, 1, api.OK)
	parses(t, "\n\n\n", nil, 3, api.OK)
	parses(t, "\nsync 0", []string{"sync 0"}, 2, api.OK)
	parses(t, "sync 0\n\n\nsync 1\n\n", []string{"sync 0", "sync 1"}, 5, api.OK)
	parses(t, "\n\nsync 0\n\n \n", []string{"sync 0"}, 4, api.ELINE)
}

// P29.3: the first line that is none ends it.
func TestParseWrong(t *testing.T) {
	for _, line := range wrong {
		if strings.Contains(line, "\n") || line == "" {
			continue
		}
		parses(t, line, nil, 0, api.ELINE)
		parses(t, line+"\nsync 0\n", nil, 0, api.ELINE)
		parses(t, "sync 0\nflush 1\n"+line, []string{"sync 0", "flush 1"}, 2, api.ELINE)
		parses(t, "sync 0\nflush 1\n"+line+"\nsync 0\n"+line+"\n", []string{"sync 0", "flush 1"}, 2, api.ELINE)
	}
	parses(t, "sync 0\r\nsync 0\r\n", nil, 0, api.ELINE)
	parses(t, "sync 0\n"+strings.Repeat("a", 30000), []string{"sync 0"}, 1, api.ELINE)
	long := "query 0 5 " + strings.Repeat("a", 230)
	parses(t, long+"\n"+long+"a\n", []string{long}, 1, api.ELINE)
}

// P29.3: a text has 2^15 bytes at most.
func TestParseLong(t *testing.T) {
	text := strings.Repeat("sync 10\n", 1<<12)
	lines := slices.Repeat([]string{"sync 10"}, 1<<12)
	parses(t, text, lines, 1<<12, api.OK)
	parses(t, text+"\n", nil, 0, api.ELONG)
	parses(t, "\n"+text, nil, 0, api.ELONG)
	parses(t, strings.Repeat("\n", 1<<15), nil, 1<<15, api.OK)
	parses(t, strings.Repeat("\n", 1<<15+1), nil, 0, api.ELONG)
	parses(t, strings.Repeat("a", 1<<15), nil, 0, api.ELINE)
	parses(t, strings.Repeat("a", 1<<15+1), nil, 0, api.ELONG)
	parses(t, strings.Repeat("a\n", 1<<22), nil, 0, api.ELONG)
}

// P29.3: steps without a line are left out.
func TestWrite(t *testing.T) {
	for _, c := range []struct {
		l    []api.Step
		want string
	}{
		{nil, ""}, {[]api.Step{}, ""}, {[]api.Step{{}}, ""}, {[]api.Step{{Kind: api.SSync}}, "sync 0\n"},
		{[]api.Step{{Kind: 17}, {Kind: api.SSync}, {Kind: api.SSync, N: 1}, {Kind: api.SSync, Rep: -2}, {Kind: api.SPut, Text: "\n"}, {Kind: api.SQuery, Text: strings.Repeat("\n", 99)}}, "sync 0\nput 0 % 0 %0a\n"},
	} {
		if got := script.Write(c.l); got != c.want {
			t.Errorf("%v: %q, not %q", c.l, got, c.want)
		}
	}
	many := slices.Repeat([]api.Step{{Kind: api.SSync, Rep: 10}}, 10000) // more than may be parsed
	if got := script.Write(many); got != strings.Repeat("sync 10\n", 10000) {
		t.Error(len(got))
	}
}

// P29.4: what was written is parsed, also by parts.
func TestParseBack(t *testing.T) {
	rnd := rand.New(rand.NewSource(29))
	for range 300 {
		var l, may []api.Step
		for range rnd.Intn(120) {
			x := some(rnd)
			l = append(l, x)
			if _, e := script.Line(x); e == api.OK {
				may = append(may, x)
			}
		}
		text := script.Write(l)
		back, n, e := script.Parse(text)
		if e != api.OK || n != len(may) || !slices.EqualFunc(back, may, same) {
			t.Fatalf("%q: %d, %d, %d", text, n, e, len(may))
		}
		if again := script.Write(back); again != text {
			t.Fatalf("%q, not %q", again, text)
		}
		if len(text) > 0 {
			if back, _, e := script.Parse(text[:len(text)-1]); e != api.OK || len(back) != len(may) {
				t.Fatalf("%q: %d", text, e)
			}
		}
	}
}
