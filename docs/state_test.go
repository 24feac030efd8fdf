package docs_test

import (
	"cmp"
	"math"
	"math/rand"
	"slices"
	"strconv"
	"strings"
	"testing"

	"scholia/api"
	"scholia/docs"
)

// write is a short way to write one of the time 1.
func write(d api.Dot, doc string, field int) api.Write {
	return api.Write{Dot: d, Time: 1, Doc: doc, Field: field}
}

// putOf is the event of a write.
func putOf(w api.Write, gone ...api.Dot) api.Event {
	return api.Event{Dot: w.Dot, Time: w.Time, Kind: api.Put, Doc: w.Doc, Field: w.Field, Text: w.Text, Gone: gone}
}

// P12.2: the chapter's example.
func TestExample(t *testing.T) {
	s, e := docs.Apply(api.State{}, api.Event{Dot: dot(0, 1), Time: 1, Kind: api.Put, Doc: "a", Field: 1, Text: "x"})
	want := api.State{Seen: api.Vector{1}, Live: []api.Write{{Dot: dot(0, 1), Time: 1, Doc: "a", Field: 1, Text: "x"}}}
	if e != api.OK || !sameState(s, want) {
		t.Fatal(s.Live, e)
	}
	if d, ok := docs.Read(s, "a"); !ok || d.Id != "a" || d.Text != [4]string{"x", "", "", ""} {
		t.Fatal(d, ok)
	}
	s, e = docs.Apply(s, api.Event{Dot: dot(1, 1), Time: 2, Kind: api.Drop, Doc: "a", Gone: []api.Dot{dot(0, 1)}})
	if e != api.OK || !sameState(s, api.State{Seen: api.Vector{1, 1}}) {
		t.Fatal(s, e)
	}
	if d, ok := docs.Read(s, "a"); ok || d != (api.Doc{}) {
		t.Fatal(d, ok)
	}
}

// P12.2: what was written stands in the order of Doc, Field, Dot, and by nothing else.
func TestApplyOrder(t *testing.T) {
	l := []api.Write{
		write(dot(5, 1), "a", 0), write(dot(0, 3), "a", 1), write(dot(0, 4), "a", 1), write(dot(1, 2), "a", 1), write(dot(0, 1), "a", 4),
		write(dot(0, 2), "a-", 0), write(dot(0, 9), "a0", 0), write(dot(0, 5), "aa", 0), write(dot(0, 6), "b", 0), write(dot(63, 1<<30), "b", 0),
	}
	for i := range l {
		l[i].Time = 100 - i // the other way round
		if l[i].Field > 0 {
			l[i].Text = string(rune('z' - i))
		}
	}
	rnd := rand.New(rand.NewSource(1))
	for range 100 {
		var s api.State
		for _, i := range rnd.Perm(len(l)) {
			// The vector has not what comes behind a greater number of its replica; each is applied to one that lacks it.
			s.Seen = api.Vector{}
			next, e := docs.Apply(s, putOf(l[i]))
			if e != api.OK || len(next.Live) != len(s.Live)+1 {
				t.Fatal(e, next.Live)
			}
			s = next
		}
		if !slices.Equal(s.Live, l) {
			t.Fatalf("%v", s.Live)
		}
	}
}

// P12.2: ahead of the first that does not stand ahead of it, whatever follows behind that.
func TestApplyByHand(t *testing.T) {
	a, b, c := write(dot(1, 1), "a", 1), write(dot(1, 2), "b", 1), write(dot(1, 3), "c", 1)
	same := write(dot(2, 9), "b", 1)
	alike := same
	alike.Time, alike.Text = 7, "alike"
	for _, x := range []struct{ live, want []api.Write }{
		{nil, []api.Write{same}},
		{[]api.Write{}, []api.Write{same}},
		{[]api.Write{a, b, c}, []api.Write{a, b, same, c}},
		{[]api.Write{c, b, a}, []api.Write{same, c, b, a}},
		{[]api.Write{a, c, b, a, c}, []api.Write{a, same, c, b, a, c}},
		{[]api.Write{a, alike, c}, []api.Write{a, same, alike, c}},
		{[]api.Write{a, same, same, c}, []api.Write{a, same, same, same, c}},
		{[]api.Write{a, b}, []api.Write{a, b, same}},
	} {
		got, e := docs.Apply(api.State{Live: x.live}, putOf(same))
		if e != api.OK || !sameState(got, api.State{Seen: api.Vector{2: 9}, Live: x.want}) {
			t.Errorf("%v: %v, error %d", x.live, got.Live, e)
		}
	}
}

// P12.2: what goes is what Gone names, of whichever document, and nothing else.
func TestApplyGone(t *testing.T) {
	l := []api.Write{write(dot(0, 1), "a", 1), write(dot(0, 1), "b", 1), write(dot(0, 2), "b", 1), write(dot(1, 1), "b", 1), write(dot(1, 2), "c", 3)}
	s := api.State{Seen: api.Vector{2, 2}, Live: l}
	for _, x := range []struct {
		gone []api.Dot
		want []api.Write
	}{
		{nil, l},
		{[]api.Dot{dot(0, 1)}, l[2:]},
		{[]api.Dot{dot(0, 2), dot(1, 1)}, []api.Write{l[0], l[1], l[4]}},
		{[]api.Dot{dot(0, 3), dot(2, 1), dot(63, 1)}, l}, // of none that is there
		{[]api.Dot{dot(0, 1), dot(0, 2), dot(1, 1), dot(1, 2)}, nil},
	} {
		drop := api.Event{Dot: dot(4, 2), Time: 5, Kind: api.Drop, Doc: "b", Gone: x.gone}
		got, e := docs.Apply(s, drop)
		if e != api.OK || !sameState(got, api.State{Seen: api.Vector{2, 2, 0, 0, 2}, Live: x.want}) {
			t.Errorf("a drop of %v: %v, error %d", x.gone, got, e)
		}
		w := api.Write{Dot: dot(4, 2), Time: 5, Doc: "zz", Field: 2, Text: "new"}
		got, e = docs.Apply(s, putOf(w, x.gone...))
		if e != api.OK || !sameState(got, api.State{Seen: api.Vector{2, 2, 0, 0, 2}, Live: append(slices.Clone(x.want), w)}) {
			t.Errorf("a put of %v: %v, error %d", x.gone, got, e)
		}
	}
}

// P12.2: the vector has the event's dot then, and all up to it.
func TestApplySeen(t *testing.T) {
	for _, x := range []struct {
		seen api.Vector
		d    api.Dot
		want api.Vector
	}{
		{api.Vector{}, dot(0, 1), api.Vector{1}},
		{api.Vector{3, 4}, dot(1, 9), api.Vector{3, 9}},
		{api.Vector{3, 4}, dot(63, 1<<30), api.Vector{0: 3, 1: 4, 63: 1 << 30}},
		{api.Vector{-7, math.MinInt}, dot(1, 2), api.Vector{-7, 2}},
		{api.Vector{math.MaxInt}, dot(1, 2), api.Vector{math.MaxInt, 2}},
	} {
		w := write(x.d, "a", 1)
		got, e := docs.Apply(api.State{Seen: x.seen}, putOf(w))
		if e != api.OK || !sameState(got, api.State{Seen: x.want, Live: []api.Write{w}}) {
			t.Errorf("%v: %v, error %d", x.d, got, e)
		}
	}
}

// P12.2: an event that is known changes nothing; one that may not be is told, also if it is known.
func TestApplyNothing(t *testing.T) {
	rnd := rand.New(rand.NewSource(2))
	for range 300 {
		s := someState(rnd)
		s.Seen[3] = 7
		for _, e := range []api.Event{somePut(), someDrop()} {
			got, wrong := docs.Apply(s, e)
			if wrong != api.OK || !sameState(got, s) {
				t.Fatalf("%v of a known event: %v, error %d", s, got, wrong)
			}
			for _, seen := range []int{6, 7} {
				s.Seen[3] = seen
				for want, change := range map[api.Errno]func(e *api.Event){
					api.EARG:  func(e *api.Event) { e.Time = 0 },
					api.ELONG: func(e *api.Event) { e.Text = strings.Repeat("x", 161) },
					api.EUTF:  func(e *api.Event) { e.Text = "\xff" },
				} {
					bad := somePut()
					change(&bad)
					got, wrong := docs.Apply(s, bad)
					if wrong != want || !sameState(got, s) {
						t.Fatalf("%v of %v: %v, error %d", s, bad, got, wrong)
					}
				}
			}
		}
	}
}

// joined is by the words of the chapter what two states know, its writes in no order.
func joined(a, b api.State) api.State {
	var s api.State
	for rep := range s.Seen {
		s.Seen[rep] = max(a.Seen[rep], b.Seen[rep])
	}
	for _, p := range [][2]api.State{{a, b}, {b, a}} {
		for _, w := range p[0].Live {
			knows := w.Dot.Rep >= 0 && w.Dot.Rep < 64 && w.Dot.N >= 1 && w.Dot.N <= 1<<30 && w.Dot.N <= p[1].Seen[w.Dot.Rep]
			if (slices.Contains(p[1].Live, w) || !knows) && !slices.Contains(s.Live, w) {
				s.Live = append(s.Live, w)
			}
		}
	}
	return s
}

// P12.2
func TestJoin(t *testing.T) {
	a1, a2, b1, c1 := write(dot(0, 1), "a", 1), write(dot(0, 2), "a", 1), write(dot(1, 1), "b", 1), write(dot(2, 1), "c", 2)
	for _, x := range []struct{ a, b, want api.State }{
		{api.State{}, api.State{}, api.State{}},
		{api.State{Seen: api.Vector{1}, Live: []api.Write{a1}}, api.State{}, api.State{Seen: api.Vector{1}, Live: []api.Write{a1}}},
		// It was taken away.
		{api.State{Seen: api.Vector{1}, Live: []api.Write{a1}}, api.State{Seen: api.Vector{1, 1}}, api.State{Seen: api.Vector{1, 1}}},
		// Both have it.
		{api.State{Seen: api.Vector{1}, Live: []api.Write{a1}}, api.State{Seen: api.Vector{1, 1}, Live: []api.Write{a1, b1}}, api.State{Seen: api.Vector{1, 1}, Live: []api.Write{a1, b1}}},
		// One took the one away, another one wrote beside it.
		{api.State{Seen: api.Vector{2}, Live: []api.Write{a2}}, api.State{Seen: api.Vector{1, 1}, Live: []api.Write{a1, b1}}, api.State{Seen: api.Vector{2, 1}, Live: []api.Write{a2, b1}}},
		{api.State{Seen: api.Vector{2, 0, 1}, Live: []api.Write{a1, a2, c1}}, api.State{Seen: api.Vector{1, 1}, Live: []api.Write{b1}}, api.State{Seen: api.Vector{2, 1, 1}, Live: []api.Write{a2, b1, c1}}},
		// By hand: not in order, twice, of no dot that may be.
		{api.State{Live: []api.Write{c1, b1, b1, a1}}, api.State{Live: []api.Write{c1, c1}}, api.State{Live: []api.Write{a1, b1, c1}}},
		{api.State{Live: []api.Write{write(dot(64, 0), "x", 9)}}, api.State{Seen: api.Vector{math.MaxInt, -1}, Live: []api.Write{write(dot(-1, 5), "x", -9)}}, api.State{Seen: api.Vector{math.MaxInt}, Live: []api.Write{write(dot(-1, 5), "x", -9), write(dot(64, 0), "x", 9)}}},
	} {
		for _, p := range [][2]api.State{{x.a, x.b}, {x.b, x.a}} {
			if got := docs.Join(p[0], p[1]); !sameState(got, x.want) {
				t.Errorf("%v and %v: %v, not %v", p[0], p[1], got, x.want)
			}
		}
	}
}

// P12.2: a write of the same dot that is another one is not the one that the other state has.
func TestJoinOther(t *testing.T) {
	base := api.Write{Dot: dot(0, 1), Time: 1, Doc: "a", Field: 1, Text: "x"}
	a := api.State{Seen: api.Vector{1}, Live: []api.Write{base}}
	if got := docs.Join(a, a); !sameState(got, a) {
		t.Fatal(got)
	}
	for _, change := range []func(w *api.Write){
		func(w *api.Write) { w.Time = 2 },
		func(w *api.Write) { w.Doc = "b" },
		func(w *api.Write) { w.Field = 2 },
		func(w *api.Write) { w.Text = "y" },
	} {
		w := base
		change(&w)
		b := api.State{Seen: api.Vector{1}, Live: []api.Write{w}}
		if got := docs.Join(a, b); !sameState(got, api.State{Seen: api.Vector{1}}) {
			t.Errorf("%v and %v: %v", a, b, got)
		}
	}
}

// P12.2
func TestJoinByHand(t *testing.T) {
	rnd := rand.New(rand.NewSource(3))
	for range 5000 {
		a, b := someState(rnd), someState(rnd)
		for range rnd.Intn(4) {
			if len(a.Live) > 0 {
				b.Live = append(b.Live, a.Live[rnd.Intn(len(a.Live))])
			}
		}
		got, want := docs.Join(a, b), joined(a, b)
		for i := 1; i < len(got.Live); i++ {
			if ahead(got.Live[i], got.Live[i-1]) {
				t.Fatalf("%v and %v: %v are not in order", a, b, got.Live)
			}
		}
		total(got.Live)
		total(want.Live)
		if !sameState(got, want) {
			t.Fatalf("%v and %v: %v, not %v", a, b, got, want)
		}
	}
}

// total puts writes in an order in which no two that differ stand alike.
func total(l []api.Write) {
	slices.SortFunc(l, func(a, b api.Write) int {
		switch {
		case ahead(a, b):
			return -1
		case ahead(b, a):
			return 1
		}
		return cmp.Or(cmp.Compare(a.Time, b.Time), cmp.Compare(a.Text, b.Text))
	})
}

// P12.2: of writes that stand alike the first state's come first.
func TestJoinAlike(t *testing.T) {
	x, y, z := write(dot(3, 1), "a", 1), write(dot(3, 1), "a", 1), write(dot(3, 1), "a", 1)
	x.Text, y.Text, z.Text = "x", "y", "z"
	a, b := api.State{Live: []api.Write{y, x}}, api.State{Live: []api.Write{z, x, y}}
	if got := docs.Join(a, b); !slices.Equal(got.Live, []api.Write{y, x, z}) {
		t.Error(got.Live)
	}
	if got := docs.Join(b, a); !slices.Equal(got.Live, []api.Write{z, x, y}) {
		t.Error(got.Live)
	}
	// Many of them, of two documents.
	var many api.State
	var want [2][]api.Write
	for i := range 200 {
		w := write(dot(3, 1), someNames[i*i%3%2], 1)
		w.Text = strconv.Itoa(i)
		many.Live = append(many.Live, w)
		want[i*i%3%2] = append(want[i*i%3%2], w)
	}
	if got := docs.Join(many, api.State{}); !slices.Equal(got.Live, slices.Concat(want[0], want[1])) {
		t.Error(got.Live)
	}
}

// P12.2
func TestCan(t *testing.T) {
	full := func(n int) api.State {
		s := api.State{Seen: api.Vector{n}}
		for i := range n {
			s.Live = append(s.Live, api.Write{Dot: dot(0, i+1), Time: 1, Doc: "a", Field: 1, Text: "x"})
		}
		return s
	}
	if !docs.Can(api.State{}) || !docs.Can(api.State{Live: []api.Write{}}) || !docs.Can(full(1)) || !docs.Can(full(4096)) || docs.Can(full(4097)) || docs.Can(full(10000)) {
		t.Error("how many writes there may be")
	}
	good := api.State{Seen: api.Vector{0: 9, 1: 9, 63: api.MaxCount}, Live: []api.Write{
		{Dot: dot(1, 2), Time: 1, Doc: "a"}, {Dot: dot(0, 9), Time: 1 << 40, Doc: "a", Field: 1, Text: "x"}, {Dot: dot(1, 1), Time: 3, Doc: "a", Field: 1}, {Dot: dot(63, api.MaxCount), Time: 3, Doc: "b", Field: 4, Text: strings.Repeat("x", 160)},
	}}
	if !docs.Can(good) {
		t.Error("a good one can't be")
	}
	type change func(s *api.State)
	not := []change{
		func(s *api.State) { s.Seen[5] = -1 },
		func(s *api.State) { s.Seen[5] = math.MinInt },
		func(s *api.State) { s.Seen[62] = api.MaxCount + 1 },
		func(s *api.State) { s.Seen[63] = math.MaxInt },
		func(s *api.State) { s.Seen[63] = api.MaxCount - 1 },
		func(s *api.State) { s.Seen[0] = 8 },
		func(s *api.State) { s.Seen[1] = 0 },
		func(s *api.State) { s.Live[0], s.Live[1] = s.Live[1], s.Live[0] },
		func(s *api.State) { s.Live[1], s.Live[2] = s.Live[2], s.Live[1] },
		func(s *api.State) { s.Live[2], s.Live[3] = s.Live[3], s.Live[2] },
		func(s *api.State) { s.Live[1] = s.Live[2] },
		func(s *api.State) { s.Live[2] = s.Live[1]; s.Live[2].Text = "y" },
		func(s *api.State) { s.Live[2] = s.Live[1]; s.Live[2].Time = 7 },
		func(s *api.State) { s.Live = append(s.Live, s.Live[3]) },
		func(s *api.State) { s.Live[0].Time = 0 },
		func(s *api.State) { s.Live[1].Time = 1<<40 + 1 },
		func(s *api.State) { s.Live[0].Doc = "" },
		func(s *api.State) { s.Live[3].Doc = "b b" },
		func(s *api.State) { s.Live[0].Text = "x" },
		func(s *api.State) { s.Live[0].Field = -1 },
		func(s *api.State) { s.Live[3].Field = 5 },
		func(s *api.State) { s.Live[3].Text += "x" },
		func(s *api.State) { s.Live[3].Text = "\xff" },
	}
	for _, d := range badDots {
		not = append(not, func(s *api.State) { s.Live[0].Dot = d })
		not = append(not, func(s *api.State) { s.Live[3].Dot = d })
	}
	for i, c := range not {
		s := cloneState(good)
		c(&s)
		if docs.Can(s) {
			t.Errorf("%d: %v can be", i, s.Live)
		}
	}
	// Events of one dot may have written several documents: nothing rules that out.
	if s := (api.State{Seen: api.Vector{1}, Live: []api.Write{write(dot(0, 1), "a", 1), write(dot(0, 1), "a", 2), write(dot(0, 1), "b", 1)}}); !docs.Can(s) {
		t.Error("one dot in several fields can't be")
	}
}

// P12.2
func TestSame(t *testing.T) {
	rnd := rand.New(rand.NewSource(4))
	for range 2000 {
		a := someState(rnd)
		if b := cloneState(a); !docs.Same(a, b) {
			t.Fatal(a)
		}
		b := someState(rnd)
		if docs.Same(a, b) != sameState(a, b) {
			t.Fatal(a, b)
		}
		for _, rep := range []int{0, 31, 63} {
			b := cloneState(a)
			b.Seen[rep]++
			if docs.Same(a, b) || docs.Same(b, a) {
				t.Fatal(rep)
			}
		}
		for i := range a.Live {
			for _, c := range []func(w *api.Write){
				func(w *api.Write) { w.Dot.Rep++ }, func(w *api.Write) { w.Dot.N++ }, func(w *api.Write) { w.Time++ },
				func(w *api.Write) { w.Doc += "a" }, func(w *api.Write) { w.Field++ }, func(w *api.Write) { w.Text += "a" },
			} {
				b := cloneState(a)
				c(&b.Live[i])
				if docs.Same(a, b) || docs.Same(b, a) {
					t.Fatal(a, b)
				}
			}
			b := api.State{Seen: a.Seen, Live: slices.Delete(slices.Clone(a.Live), i, i+1)}
			if docs.Same(a, b) || docs.Same(b, a) {
				t.Fatal(a, b)
			}
		}
	}
	if !docs.Same(api.State{}, api.State{Live: []api.Write{}}) {
		t.Error("no writes are not no writes")
	}
}

// P12.2: nothing that is handed in or out is shared.
func TestStateMemory(t *testing.T) {
	rnd := rand.New(rand.NewSource(5))
	known, fresh, bad := somePut(), somePut(), somePut()
	known.Dot, fresh.Dot, bad.Dot = dot(0, 1), dot(7, 3), dot(70, 3)
	drop := someDrop()
	drop.Dot = dot(7, 3)
	for range 200 {
		s, other := someState(rnd), someState(rnd)
		s.Seen[0] = 1
		calls := []func(a, b api.State) []api.Write{
			func(a, b api.State) []api.Write { return docs.Join(a, b).Live },
			func(a, b api.State) []api.Write { return docs.Join(b, a).Live },
			func(a, b api.State) []api.Write { return docs.Of(a, "a", -1) },
			func(a, b api.State) []api.Write { return docs.Of(a, "a", 1) },
		}
		for _, e := range []api.Event{known, fresh, bad, drop} {
			calls = append(calls, func(a, b api.State) []api.Write {
				next, _ := docs.Apply(a, e)
				return next.Live
			})
		}
		for i, call := range calls {
			a, b := api.State{Seen: s.Seen, Live: roomy(s.Live)}, api.State{Seen: other.Seen, Live: roomy(other.Live)}
			roomA, roomB := slices.Clone(a.Live[:cap(a.Live)]), slices.Clone(b.Live[:cap(b.Live)])
			first, second := call(a, b), call(a, b)
			want := slices.Clone(first)
			if !slices.Equal(a.Live[:cap(a.Live)], roomA) || !slices.Equal(b.Live[:cap(b.Live)], roomB) {
				t.Fatalf("%d: what was handed in was changed", i)
			}
			spoil(second)
			spoil(a.Live)
			spoil(b.Live)
			if !slices.Equal(first, want) {
				t.Fatalf("%d: an answer shares memory", i)
			}
			spoil(first)
		}
	}
}
