package console_test

import (
	"math/rand"
	"slices"
	"strconv"
	"strings"
	"testing"

	"scholia/api"
	"scholia/cluster"
	"scholia/console"
	"scholia/script"
)

// P30.2: texts, and what they tell.
func TestRun(t *testing.T) {
	for _, c := range []struct{ text, want string }{
		{"", ""}, {"\n", "error 16\n"}, {"\n\n", "error 16\nerror 16\n"}, {"check", "error 16\n"}, {"check\n", "error 16\n"}, {"check\n\n", "error 16\nerror 16\n"},
		{"cluster 2 60", "ok\n"}, {"cluster 2 60\n", "ok\n"}, {"cluster 2 60\n\ncheck", "ok\nerror 17\nright equal\n"}, {"\ncluster 2 60\ncheck\n", "error 16\nok\nright equal\n"},
		{"cluster 2 60\r\ncheck\r\n", "error 1\nerror 16\n"}, {"x\ncluster 2 7\ncluster 2 60\nput 0 a 1 red\nquery 0 5 red\nshow 1\ncalm 2\nshow 1\n ", "error 16\nerror 1\nok\nok\na=1\nnone\ntrue\na/red/%/%/%\nerror 17\n"},
	} {
		for range 2 { // in a new session each
			if got := console.Run(c.text); got != c.want {
				t.Errorf("%q: %q, not %q", c.text, got, c.want)
			}
		}
	}
}

// P30.2: a text has 2^15 bytes at most, and its first 120 lines are done.
func TestRunLong(t *testing.T) {
	begin := "cluster 2 60\nput 0 a 1 red\n"
	for n, want := range map[int]bool{1 << 14: true, 1<<15 - 1: true, 1 << 15: true, 1<<15 + 1: false, 1 << 16: false, 1 << 24: false} {
		got := console.Run(begin + strings.Repeat("x", n-len(begin)))
		if want && got != "ok\nok\nerror 17\n" || !want && got != "error 5" {
			t.Error(n, got)
		}
	}
	got := console.Run(begin + strings.Repeat("query 0 5 red\n", 121))
	if want := "ok\nok\n" + strings.Repeat("a=1\n", 118) + "error 5\nerror 2\nerror 2\n"; got != want {
		t.Errorf("%q", got)
	}
	if got := console.Run(strings.Repeat("\n", 1<<15)); got != strings.Repeat("error 16\n", 120)+"error 5\n"+strings.Repeat("error 2\n", 1<<15-121) {
		t.Error(len(got))
	}
}

// life is a session to which something happens by chance.
type life struct {
	*console.Session
	rnd   *rand.Rand
	lines []string
	told  []string
}

// do does a line.
func (l *life) do(line string) string {
	answer := l.Do(line)
	l.lines, l.told = append(l.lines, line), append(l.told, answer)
	return answer
}

// kinds is what befalls a cluster.
var kinds = []int{
	api.SPut, api.SPut, api.SPut, api.SPut, api.SPut, api.SPut, api.SDrop, api.SDrop, api.SSend, api.SSend, api.SSend, api.SSend, api.SDeliver, api.SDeliver, api.SDeliver, api.SDeliver, api.SDeliver, api.SDeliver,
	api.SStart, api.SStart, api.SStart, api.SSync, api.SLose, api.SDouble, api.SSpoil, api.SCrash, api.SFuse, api.SFlush, api.SCompact, api.SCollect, api.SSave, api.SQuery,
}

// step is any step.
func (l *life) step() api.Step {
	c, rnd := l.Cluster(), l.rnd
	n := c.Size()
	x := api.Step{Kind: kinds[rnd.Intn(len(kinds))], Rep: rnd.Intn(n)}
	to := (x.Rep + 1 + rnd.Intn(n-1)) % n
	doc := []string{"a", "b", "c", "-"}[rnd.Intn(4)]
	switch x.Kind {
	case api.SPut:
		if x.Doc, x.Field = doc, rnd.Intn(5); x.Field > 0 {
			x.Text = []string{"red fox", "the red hens", "", "blue % \n é", "fox fox"}[rnd.Intn(5)]
		}
	case api.SDrop:
		x.Doc = doc
	case api.SSend:
		x.To = to
	case api.SDeliver, api.SLose, api.SDouble, api.SSpoil:
		for x.To = to; x.To == x.Rep || c.Count(x.Rep, x.To) == 0 && rnd.Intn(9) > 0; {
			x.Rep, x.To = rnd.Intn(n), rnd.Intn(n)
		}
		if x.N = rnd.Intn(1 + c.Count(x.Rep, x.To)); x.Kind == api.SSpoil {
			x.At, x.X = rnd.Intn(200), rnd.Intn(300)-1
		}
	case api.SCrash:
		x.X = -1
		for _, page := range c.Disk(x.Rep).Loose() {
			if rnd.Intn(2) == 0 {
				x.Keep = append(x.Keep, page)
			}
			if rnd.Intn(3) == 0 {
				x.X, x.At = page, rnd.Intn(129)
			}
		}
	case api.SFuse:
		x.N = rnd.Intn(9) - 1
	case api.SQuery:
		x.N, x.Text = rnd.Intn(9), []string{"red", "fox* | blue", "-red", "title:\"red fox\"", "(", ""}[rnd.Intn(6)]
	}
	return x
}

// lived is a session's life of a hundred lines and some more: that all was right at each, and all were equal in the end.
func lived(t *testing.T, seed int64) *life {
	t.Helper()
	rnd := rand.New(rand.NewSource(seed))
	l := &life{Session: console.New(), rnd: rnd}
	n := 2 + rnd.Intn(4)
	if l.do("cluster "+strconv.Itoa(n)+" 300") != "ok" {
		t.Fatal(l.told)
	}
	for range 100 {
		switch rnd.Intn(20) {
		case 0:
			l.do([]string{"", "put 0 a", "show 7", "cluster 2 60", "check it"}[rnd.Intn(5)])
		case 1:
			l.do("show " + strconv.Itoa(rnd.Intn(n)))
		case 2:
			l.do("calm 0")
		case 3:
			if got := l.do("check"); got != "right" && got != "right equal" {
				t.Fatal(seed, got, strings.Join(l.lines, "\n"))
			}
		default:
			line, e := script.Line(l.step())
			if e != api.OK {
				t.Fatal(e)
			}
			l.do(line)
		}
	}
	if got := l.do("check"); got == "wrong" {
		t.Fatal(seed, strings.Join(l.lines, "\n"))
	}
	if calm, check := l.do("calm "+strconv.Itoa(n)), l.do("check"); calm != "true" || check != "right equal" {
		t.Fatal(seed, calm, check, strings.Join(l.lines, "\n"))
	}
	first := l.do("show 0")
	for i := range n {
		if got := l.do("show " + strconv.Itoa(i)); got != first {
			t.Fatal(seed, first, got)
		}
	}
	return l
}

// P30.2, P30.3: a text tells what a session is told of its lines, the same each time; its beginning tells the beginning.
func TestAlike(t *testing.T) {
	for seed := range int64(60) {
		l := lived(t, seed)
		want := strings.Join(l.told, "\n") + "\n"
		for range 2 {
			if got := console.Run(strings.Join(l.lines, "\n")); got != want {
				t.Fatal(seed)
			}
		}
		n := l.rnd.Intn(len(l.lines))
		got := console.Run(strings.Join(l.lines[:n], "\n") + "\n"[:min(n, 1)])
		if begin := strings.Join(append(slices.Clone(l.told[:n]), ""), "\n"); got != begin || !strings.HasPrefix(want, got) {
			t.Fatal(seed, n, got)
		}
	}
}

// P6: a script's lines come to what its steps come to.
func TestFromText(t *testing.T) {
	for seed := range int64(40) {
		l := lived(t, 1000+seed)
		c, e := cluster.New(l.Cluster().Size(), 300)
		if e != api.OK {
			t.Fatal(e)
		}
		var steps []api.Step
		for _, line := range l.lines {
			if x, ok := script.Read(line); ok {
				steps = append(steps, x)
			}
		}
		if len(steps) < 60 {
			t.Fatal(len(steps))
		}
		text := script.Write(steps)
		if back, _, e := script.Parse(text); e != api.OK || !slices.EqualFunc(back, steps, script.Same) {
			t.Fatal(seed, e)
		}
		s := begun(t, "cluster "+strconv.Itoa(c.Size())+" 300")
		lines := strings.Split(text, "\n")
		for i, x := range steps {
			a := c.Step(x)
			want := "error " + strconv.Itoa(int(a.Err))
			if a.Err == api.OK {
				want = "ok"
			}
			if a.Err == api.OK && x.Kind == api.SQuery {
				want = "none"
				for j, h := range a.Hits {
					if want += " "; j == 0 {
						want = ""
					}
					want += h.Id + "=" + strconv.Itoa(h.Score)
				}
			}
			if got := s.Do(lines[i]); got != want {
				t.Fatalf("%q: %q, not %q", lines[i], got, want)
			}
		}
		for i := range c.Size() {
			a, e := c.State(i)
			b, e2 := s.Cluster().State(i)
			if e != e2 || a.Seen != b.Seen || !slices.Equal(c.Corpus(i), s.Cluster().Corpus(i)) {
				t.Fatal(seed, i)
			}
		}
	}
}
