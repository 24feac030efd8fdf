package script_test

import (
	"math/rand"
	"testing"

	"scholia/api"
	"scholia/script"
)

// same tells whether two steps have the same fields, by a way of its own.
func same(a, b api.Step) bool {
	if len(a.Keep) != len(b.Keep) {
		return false
	}
	for i := range a.Keep {
		if a.Keep[i] != b.Keep[i] {
			return false
		}
	}
	return [7]int{a.Kind, a.Rep, a.To, a.N, a.X, a.At, a.Field} == [7]int{b.Kind, b.Rep, b.To, b.N, b.X, b.At, b.Field} && [2]string{a.Doc, a.Text} == [2]string{b.Doc, b.Text}
}

// isNone tells whether a step is the zero one.
func isNone(x api.Step) bool {
	return same(x, api.Step{}) && x.Keep == nil
}

// isLine tells whether a line is a step's, and the step has that line.
func isLine(t *testing.T, x api.Step, line string) {
	t.Helper()
	if got, e := script.Line(x); got != line || e != api.OK {
		t.Errorf("%v: %q, %d, not %q", x, got, e, line)
	}
	if got, ok := script.Read(line); !same(got, x) || !ok {
		t.Errorf("%q: %v, %v, not %v", line, got, ok, x)
	}
}

// noLine tells whether a step has no line.
func noLine(t *testing.T, x api.Step) {
	t.Helper()
	if got, e := script.Line(x); got != "" || e != api.EARG {
		t.Errorf("%v: %q, %d", x, got, e)
	}
}

// written is a step of each kind, with all that it may have, and its line.
var written = []struct {
	x    api.Step
	line string
}{
	{api.Step{Kind: api.SPut, Rep: 1, Doc: "a", Field: 2, Text: "red fox"}, "put 1 a 2 red%20fox"},
	{api.Step{Kind: api.SDrop, Rep: 1, Doc: "a"}, "drop 1 a"},
	{api.Step{Kind: api.SSync, Rep: 1}, "sync 1"},
	{api.Step{Kind: api.SSend, Rep: 1, To: 2}, "send 1 2"},
	{api.Step{Kind: api.SDeliver, Rep: 1, To: 2, N: 3}, "deliver 1 2 3"},
	{api.Step{Kind: api.SLose, Rep: 1, To: 2, N: 3}, "lose 1 2 3"},
	{api.Step{Kind: api.SDouble, Rep: 1, To: 2, N: 3}, "double 1 2 3"},
	{api.Step{Kind: api.SSpoil, Rep: 1, To: 2, N: 3, At: 4, X: 5}, "spoil 1 2 3 4 5"},
	{api.Step{Kind: api.SCrash, Rep: 1, X: 2, At: 3, Keep: []int{4, 5, 4}}, "crash 1 2 3 4 5 4"},
	{api.Step{Kind: api.SStart, Rep: 1}, "start 1"},
	{api.Step{Kind: api.SFuse, Rep: 1, N: 2}, "fuse 1 2"},
	{api.Step{Kind: api.SFlush, Rep: 1}, "flush 1"},
	{api.Step{Kind: api.SCompact, Rep: 1}, "compact 1"},
	{api.Step{Kind: api.SCollect, Rep: 1}, "collect 1"},
	{api.Step{Kind: api.SSave, Rep: 1}, "save 1"},
	{api.Step{Kind: api.SQuery, Rep: 1, N: 2, Text: "red -(a | b*)"}, "query 1 2 red%20-(a%20|%20b*)"},
}

// numbers is where a step's numbers stand.
func numbers(x *api.Step) []*int {
	return []*int{&x.Rep, &x.To, &x.N, &x.X, &x.At, &x.Field}
}

// some is any step, most of which have a line.
func some(rnd *rand.Rand) api.Step {
	x := written[rnd.Intn(len(written))].x
	x.Keep = nil
	for _, n := range numbers(&x) {
		if *n != 0 || rnd.Intn(40) == 0 {
			*n = []int{0, 1, -1, 63, 1 << 30, rnd.Intn(1 << 30), 1<<30 + 1, -2}[rnd.Intn(20)%(7+rnd.Intn(2))]
		}
	}
	for _, s := range []*string{&x.Doc, &x.Text} {
		if *s != "" || rnd.Intn(40) == 0 {
			*s = []string{"", "a", "red fox", "%", " ", "é\n\x00", "~!", string(make([]byte, rnd.Intn(90)))}[rnd.Intn(8)]
		}
	}
	if x.Kind == api.SCrash || rnd.Intn(40) == 0 {
		for range rnd.Intn(5) {
			x.Keep = append(x.Keep, rnd.Intn(1<<rnd.Intn(31))-1)
		}
	}
	return x
}

// mayStand tells whether a step has a line, by the chapter's table: of each kind its row has what is not zero there.
func mayStand(x api.Step) bool {
	for _, n := range append(numbers(&x), each(x.Keep)...) {
		if *n < -1 || *n > 1<<30 {
			return false
		}
	}
	for _, w := range written {
		if w.x.Kind == x.Kind {
			had := numbers(&w.x)
			for i, n := range numbers(&x) {
				if *n != 0 && *had[i] == 0 {
					return false
				}
			}
			return (x.Doc == "" || w.x.Doc != "") && (x.Text == "" || w.x.Text != "") && (len(x.Keep) == 0 || w.x.Keep != nil)
		}
	}
	return false
}

// each is where numbers stand.
func each(l []int) []*int {
	var at []*int
	for i := range l {
		at = append(at, &l[i])
	}
	return at
}
