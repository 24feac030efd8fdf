package oracle_test

import (
	"slices"
	"strings"
	"testing"

	"scholia/api"
	"scholia/cluster"
	"scholia/oracle"
	"scholia/past"
)

// dot is an event's name.
func dot(rep, n int) api.Dot {
	return api.Dot{Rep: rep, N: n}
}

// put and drop are events.
func put(d api.Dot, time int, doc string, field int, text string, gone ...api.Dot) api.Event {
	return api.Event{Dot: d, Time: time, Kind: api.Put, Doc: doc, Field: field, Text: text, Gone: gone}
}

func drop(d api.Dot, time int, doc string, gone ...api.Dot) api.Event {
	return api.Event{Dot: d, Time: time, Kind: api.Drop, Doc: doc, Gone: gone}
}

// vector is one of numbers.
func vector(n ...int) api.Vector {
	var v api.Vector
	copy(v[:], n)
	return v
}

// doc is a document of a name, and of these fields' texts.
func doc(id string, texts ...string) api.Doc {
	d := api.Doc{Id: id}
	copy(d.Text[:], texts)
	return d
}

// P28.1: the events that a vector has, in order.
func TestKnown(t *testing.T) {
	l := []api.Event{
		put(dot(1, 2), 1, "a", 1, ""), drop(dot(0, 3), 2, "a", dot(1, 2)), put(dot(0, 1), 3, "b", 1, ""),
		put(dot(63, 9), 4, "a", 1, ""), put(dot(64, 1), 1, "a", 1, ""), put(dot(-1, 1), 1, "a", 1, ""), put(dot(1, 0), 1, "a", 1, ""), put(dot(1, 2), 9, "c", 1, ""),
	}
	for _, x := range []struct {
		seen api.Vector
		want []int
	}{
		{vector(), nil},
		{vector(3), []int{1, 2}},
		{vector(2, 1), []int{2}},
		{vector(1, 2), []int{0, 2, 7}},
		{vector(-1, -1), nil},
		{api.Vector{0: 9, 1: 9, 63: 9}, []int{0, 1, 2, 3, 7}},
		{api.Vector{63: 8}, nil},
	} {
		var want []api.Event
		for _, i := range x.want {
			want = append(want, l[i])
		}
		in := slices.Clone(l)
		got := oracle.Known(in, x.seen)
		if !past.SameEvents(got, want) {
			t.Errorf("%v: %v, not %v", x.seen, got, want)
		}
		clear(got)
		if !past.SameEvents(in, l) {
			t.Fatal("what was handed in was changed")
		}
	}
	if len(oracle.Known(nil, vector(1))) != 0 {
		t.Error("of none")
	}
}

// P28.1: what events make.
func TestCorpus(t *testing.T) {
	a, b := dot(0, 1), dot(1, 1)
	for what, x := range map[string]struct {
		l    []api.Event
		want []api.Doc
	}{
		"none":                           {nil, nil},
		"a put":                          {[]api.Event{put(a, 1, "a", 1, "red")}, []api.Doc{doc("a", "red")}},
		"a put of no field":              {[]api.Event{put(a, 1, "a", 0, "")}, []api.Doc{doc("a")}},
		"a drop alone":                   {[]api.Event{drop(a, 1, "a")}, nil},
		"the chapter's example":          {[]api.Event{put(a, 1, "a", 1, "red"), drop(b, 2, "a", a)}, nil},
		"the drop ahead":                 {[]api.Event{drop(b, 2, "a", a), put(a, 1, "a", 1, "red")}, nil},
		"a drop that did not know it":    {[]api.Event{put(a, 1, "a", 1, "red"), drop(b, 2, "a", dot(0, 2))}, []api.Doc{doc("a", "red")}},
		"a put that takes it away":       {[]api.Event{put(a, 1, "a", 1, "red"), put(b, 2, "a", 1, "blue", a)}, []api.Doc{doc("a", "blue")}},
		"that is taken away itself":      {[]api.Event{put(a, 1, "a", 1, "red"), put(b, 2, "a", 1, "blue", a), drop(dot(2, 1), 3, "a", b)}, nil},
		"both at once":                   {[]api.Event{put(a, 7, "a", 1, "red"), put(b, 6, "a", 1, "blue")}, []api.Doc{doc("a", "red")}},
		"of one time":                    {[]api.Event{put(b, 7, "a", 1, "blue"), put(a, 7, "a", 1, "red")}, []api.Doc{doc("a", "blue")}},
		"its body, by one who didn't":    {[]api.Event{put(a, 1, "a", 1, "red"), put(b, 2, "a", 2, "body"), drop(dot(0, 2), 3, "a", a)}, []api.Doc{doc("a", "", "body")}},
		"two, in the order of names":     {[]api.Event{put(a, 1, "b", 4, "red"), put(b, 1, "a", 3, "blue"), put(dot(2, 1), 1, "b", 1, "x")}, []api.Doc{doc("a", "", "", "blue"), doc("b", "x", "", "", "red")}},
		"of another kind":                {[]api.Event{{Dot: a, Time: 1, Kind: 3, Doc: "a", Field: 1}, {Dot: b, Doc: "b"}}, nil},
		"another kind takes away, too":   {[]api.Event{put(a, 1, "a", 1, "red"), {Dot: b, Kind: 3, Gone: []api.Dot{a}}}, nil},
		"one name twice, the later read": {[]api.Event{put(a, 1, "a", 1, "red"), put(a, 1, "a", 1, "blue")}, []api.Doc{doc("a", "blue")}},
	} {
		if got := oracle.Corpus(x.l); !slices.Equal(got, x.want) {
			t.Errorf("%s: %v, not %v", what, got, x.want)
		}
	}
}

// does does steps of a cluster, each of which goes well.
func does(t *testing.T, c *cluster.Cluster, steps ...api.Step) {
	t.Helper()
	for _, x := range steps {
		if a := c.Step(x); a.Err != api.OK {
			t.Fatal(x, a.Err)
		}
	}
}

// P28.2: whether all know the same, and what some know.
func TestEqual(t *testing.T) {
	c, _ := cluster.New(3, 60)
	look := func(equal bool, union api.Vector) {
		t.Helper()
		if oracle.Equal(c) != equal || oracle.Union(c) != union {
			t.Fatal(oracle.Equal(c), oracle.Union(c))
		}
		for i := -1; i < 4; i++ {
			if !oracle.Right(c, i) {
				t.Fatal(i)
			}
		}
	}
	look(true, vector())
	does(t, c, api.Step{Kind: api.SPut, Rep: 2, Doc: "a", Field: 1, Text: "red"})
	look(false, vector(0, 0, 1))
	does(t, c, api.Step{Kind: api.SPut, Rep: 0, Doc: "b", Field: 1, Text: "red"}, api.Step{Kind: api.SDrop, Rep: 0, Doc: "b"})
	look(false, vector(2, 0, 1))
	does(t, c, api.Step{Kind: api.SSend, Rep: 0, To: 2}, api.Step{Kind: api.SDeliver, Rep: 0, To: 2}, api.Step{Kind: api.SSend, Rep: 2, To: 0}, api.Step{Kind: api.SDeliver, Rep: 2, To: 0})
	look(false, vector(2, 0, 1))
	does(t, c, api.Step{Kind: api.SCrash, Rep: 1}) // those that are up know the same
	look(true, vector(2, 0, 1))
	does(t, c, api.Step{Kind: api.SCrash, Rep: 0, X: -1}, api.Step{Kind: api.SCrash, Rep: 2, X: -1})
	look(true, vector())
	does(t, c, api.Step{Kind: api.SStart, Rep: 2}, api.Step{Kind: api.SPut, Rep: 2, Doc: "c"})
	look(true, vector(2, 0, 9))
	if !c.Calm(3) {
		t.Fatal("calm")
	}
	look(true, vector(2, 0, 9))
}

// Of no cluster.
func TestNoCluster(t *testing.T) {
	for _, c := range []*cluster.Cluster{nil, {}} {
		if !oracle.Equal(c) || oracle.Union(c) != vector() || !oracle.Right(c, 0) || !oracle.Right(c, -1) {
			t.Error("nobody is up")
		}
	}
}

// P28.1: queries that are none.
func TestScanErrors(t *testing.T) {
	for text, want := range map[string]api.Errno{
		"": api.ESYNTAX, "(": api.ESYNTAX, "x:red": api.ESYNTAX, strings.Repeat("a", 121): api.ELONG, "\xff": api.EUTF, "(((((((a)))))))": api.EDEEP,
	} {
		for _, k := range []int{5, 0, -1} {
			if l, e := oracle.Scan([]api.Doc{doc("a", "red")}, text, k); e != want || l != nil {
				t.Errorf("%q: %v, %d; not %d", text, l, e, want)
			}
		}
	}
	if l, e := oracle.Scan(nil, "-red", 5); e != api.OK || len(l) != 0 {
		t.Error(l, e)
	}
}

// P28.1: a scan by hand.
func TestScan(t *testing.T) {
	l := []api.Doc{
		doc("d", "the red fox, a red fox", "hen"),
		doc("b", "red", "fox red", "", "the fox"),
		doc("a", "", "", "hens", strings.Repeat("red ", 58)),
		doc("c", "foxes red fox foxy"),
		doc("e"),
	}
	for text, want := range map[string][]api.Hit{
		"red":                   {{Id: "a", Score: 58}, {Id: "b", Score: 2}, {Id: "d", Score: 2}, {Id: "c", Score: 1}},
		"hen":                   {{Id: "a", Score: 2}, {Id: "d", Score: 2}},
		"title:red":             {{Id: "d", Score: 2}, {Id: "b", Score: 1}, {Id: "c", Score: 1}},
		"\"red fox\"":           {{Id: "d", Score: 4}, {Id: "c", Score: 2}},
		"\"fox red\"":           {{Id: "b", Score: 3}},
		"body:\"fox red\"":      {{Id: "b", Score: 3}},
		"title:\"fox red\"":     nil,
		"\"fox a red fox\"":     {{Id: "d", Score: 3}},
		"\"fox the red fox\"":   {{Id: "d", Score: 3}}, // one that is not looked for may be any
		"\"fox red fox\"":       nil,
		"fox*":                  {{Id: "c", Score: 3}, {Id: "b", Score: 2}, {Id: "d", Score: 2}},
		"f* -foxy":              {{Id: "b", Score: 2}, {Id: "d", Score: 2}},
		"hen | red":             {{Id: "a", Score: 60}, {Id: "d", Score: 4}, {Id: "b", Score: 2}, {Id: "c", Score: 1}},
		"hen red":               {{Id: "a", Score: 60}, {Id: "d", Score: 4}},
		"hen hen":               {{Id: "a", Score: 4}, {Id: "d", Score: 4}},
		"-red":                  {{Id: "e", Score: 0}},
		"-(red | hen)":          {{Id: "e", Score: 0}},
		"-(red hen)":            {{Id: "b", Score: 0}, {Id: "c", Score: 0}, {Id: "e", Score: 0}},
		"the":                   {{Id: "a", Score: 0}, {Id: "b", Score: 0}, {Id: "c", Score: 0}, {Id: "d", Score: 0}, {Id: "e", Score: 0}},
		"the foxy":              {{Id: "c", Score: 3}},
		"- -foxy":               {{Id: "c", Score: 0}},
		"owl":                   nil,
		"note:(fox | red) -hen": {{Id: "b", Score: 3}},
	} {
		in := slices.Clone(l)
		for _, k := range []int{20, 99, 2, 1, 0, -1, len(want)} {
			got, e := oracle.Scan(in, text, k)
			if first := want[:max(0, min(k, len(want)))]; e != api.OK || !slices.Equal(got, first) {
				t.Errorf("%s: %v, %d; not %v", text, got, e, first)
			}
			clear(got)
		}
		if !slices.Equal(in, l) {
			t.Fatal("what was handed in was changed")
		}
	}
	// At most 20; all places count, of a field's first 60 words.
	var many []api.Doc
	for i := range 30 {
		many = append(many, doc(string(rune('A'+i)), "red"))
	}
	if got, _ := oracle.Scan(many, "red", 99); len(got) != 20 || got[0].Id != "A" || got[19].Id != "T" {
		t.Fatal(got)
	}
	often := strings.Repeat("a1 a2 ", 30)
	if got, _ := oracle.Scan([]api.Doc{doc("x", often, often, often, often), doc("y", often, often, often, often[:45])}, "a*", 5); !slices.Equal(got, []api.Hit{{Id: "x", Score: 240}, {Id: "y", Score: 195}}) {
		t.Fatal(got)
	}
}
