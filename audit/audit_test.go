package audit_test

import (
	"math"
	"math/rand"
	"slices"
	"strconv"
	"testing"

	"scholia/api"
	"scholia/audit"
	"scholia/docs"
)

// dot is a short way to write one.
func dot(rep, n int) api.Dot { return api.Dot{Rep: rep, N: n} }

// put is a short way to write an event.
func put(d api.Dot, gone ...api.Dot) api.Event {
	return api.Event{Dot: d, Time: 5, Kind: api.Put, Doc: "a", Field: 1, Text: "x", Gone: gone}
}

// drop is a short way to write a removal.
func drop(d api.Dot, gone ...api.Dot) api.Event {
	return api.Event{Dot: d, Time: 5, Kind: api.Drop, Doc: "a", Gone: gone}
}

// write is a short way to write one.
func write(d api.Dot, doc string) api.Write {
	return api.Write{Dot: d, Time: 5, Doc: doc, Field: 1, Text: "x"}
}

// badDots: dots that may not be.
var badDots = []api.Dot{
	{}, {Rep: -1, N: 1}, {Rep: 64, N: 1}, {Rep: 0, N: 0}, {Rep: 63, N: 0}, {Rep: 0, N: -1}, {Rep: 1, N: api.MaxCount + 1},
	{Rep: math.MinInt, N: math.MaxInt}, {Rep: math.MaxInt, N: math.MinInt}, {Rep: 63, N: math.MaxInt}, {Rep: 1 << 32, N: 3}, {Rep: 3, N: 1<<32 + 1},
}

// P36.1: the chapter's example, and a case of each kind.
func TestLook(t *testing.T) {
	seen := api.Vector{5, 5, 5}
	of := func(l ...api.Event) api.Past { return api.Past{Events: l} }
	s := api.State{Seen: seen, Live: []api.Write{write(dot(0, 3), "a"), write(dot(1, 2), "b")}}
	for i, c := range []struct {
		s    api.State
		p    api.Past
		want []api.Trouble
	}{
		{api.State{}, api.Past{}, nil},
		{s, api.Past{Floor: seen}, nil},
		{s, of(put(dot(0, 3)), put(dot(0, 5), dot(0, 4)), drop(dot(1, 1)), put(dot(0, 4))), []api.Trouble{{Kind: api.TOrder, Dot: dot(0, 4)}}},
		{api.State{}, of(put(dot(0, 1))), []api.Trouble{{Kind: api.TUnknown, Dot: dot(0, 1)}}},
		{s, of(put(dot(0, 6)), put(dot(3, 1)), put(dot(0, 5))), []api.Trouble{{Kind: api.TUnknown, Dot: dot(0, 6)}, {Kind: api.TUnknown, Dot: dot(3, 1)}, {Kind: api.TOrder, Dot: dot(0, 5)}}},
		{s, of(put(dot(0, 3)), put(dot(0, 3))), []api.Trouble{{Kind: api.TTwice, Dot: dot(0, 3)}}},
		{s, of(put(dot(0, 3)), put(dot(1, 3)), put(dot(0, 3)), drop(dot(0, 3))), []api.Trouble{{Kind: api.TTwice, Dot: dot(0, 3)}, {Kind: api.TTwice, Dot: dot(0, 3)}}},
		{s, of(put(dot(0, 3)), put(dot(0, 4)), put(dot(0, 3))), []api.Trouble{{Kind: api.TOrder, Dot: dot(0, 3)}, {Kind: api.TTwice, Dot: dot(0, 3)}}},
		{s, of(drop(dot(0, 4), dot(1, 6))), []api.Trouble{{Kind: api.TGone, Dot: dot(0, 4)}}},
		{s, of(drop(dot(0, 4), dot(1, 6), dot(3, 1), dot(4, 1))), []api.Trouble{{Kind: api.TGone, Dot: dot(0, 4)}}}, // told once
		{s, of(drop(dot(0, 4), dot(0, 3))), []api.Trouble{{Kind: api.TLive, Dot: dot(0, 4)}}},
		{s, of(put(dot(0, 4), dot(0, 3), dot(1, 2))), []api.Trouble{{Kind: api.TLive, Dot: dot(0, 4)}}},
		{s, of(drop(dot(0, 4), dot(1, 1), dot(1, 3))), nil},
		{s, of(put(dot(0, 4), dot(0, 4))), []api.Trouble{{Kind: api.TEvent, Dot: dot(0, 4)}}},
		{s, of(api.Event{Dot: dot(0, 4)}), []api.Trouble{{Kind: api.TEvent, Dot: dot(0, 4)}}},
		{s, api.Past{Floor: api.Vector{5, 6}}, []api.Trouble{{Kind: api.TFloor}}},
		{s, api.Past{Floor: api.Vector{63: 1}}, []api.Trouble{{Kind: api.TFloor}}},
		{s, api.Past{Floor: api.Vector{5, 4, 0, -1}}, nil},
		{api.State{Live: s.Live}, api.Past{}, []api.Trouble{{Kind: api.TState}}},
		{api.State{Seen: api.Vector{-1}}, api.Past{}, []api.Trouble{{Kind: api.TState}, {Kind: api.TFloor}}},
		{api.State{Seen: api.Vector{api.MaxCount + 1}}, api.Past{}, []api.Trouble{{Kind: api.TState}}},
		// All at once, in order.
		{api.State{Live: s.Live}, api.Past{Floor: api.Vector{1}, Events: []api.Event{put(dot(9, 2)), put(dot(9, 1)), put(dot(9, 1), dot(1, 2), dot(0, 3))}}, []api.Trouble{
			{Kind: api.TState}, {Kind: api.TFloor}, {Kind: api.TUnknown, Dot: dot(9, 2)}, {Kind: api.TUnknown, Dot: dot(9, 1)}, {Kind: api.TOrder, Dot: dot(9, 1)},
			{Kind: api.TEvent, Dot: dot(9, 1)}, {Kind: api.TUnknown, Dot: dot(9, 1)}, {Kind: api.TOrder, Dot: dot(9, 1)}, {Kind: api.TGone, Dot: dot(9, 1)}, {Kind: api.TLive, Dot: dot(9, 1)}, {Kind: api.TTwice, Dot: dot(9, 1)},
		}},
	} {
		if got := audit.Look(c.s, c.p); !slices.Equal(got, c.want) {
			t.Errorf("%d: %v, not %v", i, got, c.want)
		}
		if audit.Fine(c.s, c.p) != (len(c.want) == 0) {
			t.Errorf("%d: fine is %v", i, audit.Fine(c.s, c.p))
		}
	}
	if got := audit.Text(audit.Look(api.State{}, of(put(dot(0, 1))))); got != "unknown 0.1\n" {
		t.Error(got)
	}
}

// has tells by the words of chapter 8 whether a vector has a dot.
func has(v api.Vector, d api.Dot) bool {
	return d.Rep >= 0 && d.Rep < 64 && d.N >= 1 && d.N <= 1<<30 && d.N <= v[d.Rep]
}

// looked is by the words of the chapter all that is wrong.
func looked(s api.State, p api.Past) []api.Trouble {
	var l []api.Trouble
	if !docs.Can(s) {
		l = append(l, api.Trouble{Kind: 1})
	}
	for rep := range p.Floor {
		if p.Floor[rep] > s.Seen[rep] {
			l = append(l, api.Trouble{Kind: 7})
			break
		}
	}
	for i, e := range p.Events {
		var is [9]bool
		is[2] = docs.Check(e) != api.OK
		is[3] = !has(s.Seen, e.Dot)
		for _, x := range p.Events[:i] {
			is[4] = is[4] || x.Dot.Rep == e.Dot.Rep && x.Dot.N > e.Dot.N
			is[8] = is[8] || x.Dot == e.Dot
		}
		for _, d := range e.Gone {
			is[5] = is[5] || !has(s.Seen, d)
			for _, w := range s.Live {
				is[6] = is[6] || w.Dot == d
			}
		}
		for kind, so := range is {
			if so {
				l = append(l, api.Trouble{Kind: kind, Dot: e.Dot})
			}
		}
	}
	return l
}

// someDot is one of few, or one that may not be.
func someDot(rnd *rand.Rand) api.Dot {
	if rnd.Intn(15) == 0 {
		return badDots[rnd.Intn(len(badDots))]
	}
	return dot(rnd.Intn(4), 1+rnd.Intn(6))
}

// someKnown is a state and a past by hand.
func someKnown(rnd *rand.Rand) (api.State, api.Past) {
	var s api.State
	var p api.Past
	for rep := range 4 {
		s.Seen[rep] = rnd.Intn(8) - rnd.Intn(2)
		p.Floor[rep] = rnd.Intn(6) - 1
	}
	for range rnd.Intn(5) {
		s.Live = append(s.Live, write(someDot(rnd), "a"))
	}
	for range rnd.Intn(9) {
		e := put(someDot(rnd))
		e.Kind = 1 + rnd.Intn(7)/6
		e.Time = rnd.Intn(8)
		for range rnd.Intn(3) {
			e.Gone = append(e.Gone, someDot(rnd))
		}
		p.Events = append(p.Events, e)
	}
	return s, p
}

// clone is a past in memory of its own.
func clone(p api.Past) api.Past {
	p.Events = slices.Clone(p.Events)
	for i := range p.Events {
		p.Events[i].Gone = slices.Clone(p.Events[i].Gone)
	}
	return p
}

// same tells whether two pasts are the same.
func same(a, b api.Past) bool {
	return a.Floor == b.Floor && slices.EqualFunc(a.Events, b.Events, func(x, y api.Event) bool {
		return x.Dot == y.Dot && x.Time == y.Time && x.Kind == y.Kind && x.Doc == y.Doc && x.Field == y.Field && x.Text == y.Text && slices.Equal(x.Gone, y.Gone)
	})
}

// P36.1, P36.3: of states and pasts by hand.
func TestByHand(t *testing.T) {
	rnd := rand.New(rand.NewSource(1))
	for range 5000 {
		s, p := someKnown(rnd)
		live, was := slices.Clone(s.Live), clone(p)
		want := looked(s, p)
		got, again := audit.Look(s, p), audit.Look(s, p)
		clear(again[:cap(again)])
		if !slices.Equal(got, want) || audit.Fine(s, p) != (len(want) == 0) {
			t.Fatalf("%v, %v: %v, not %v", s, p, got, want)
		}
		var writes, events api.Vector
		var oldest *api.Event
		for _, w := range s.Live {
			if has(api.Vector(slices.Repeat([]int{math.MaxInt}, 64)), w.Dot) {
				writes[w.Dot.Rep]++
			}
		}
		for i := range p.Events {
			e := &p.Events[i]
			if has(api.Vector(slices.Repeat([]int{math.MaxInt}, 64)), e.Dot) {
				events[e.Dot.Rep]++
			}
			if oldest == nil || e.Time < oldest.Time || e.Time == oldest.Time && (e.Dot.Rep < oldest.Dot.Rep || e.Dot.Rep == oldest.Dot.Rep && e.Dot.N < oldest.Dot.N) {
				oldest = e
			}
		}
		if w, e := audit.Sums(s, p); w != writes || e != events {
			t.Fatalf("%v, %v: %v and %v", s, p, w, e)
		}
		d, ok := audit.Oldest(p)
		if ok != (oldest != nil) || ok && d != oldest.Dot || !ok && d != (api.Dot{}) {
			t.Fatalf("%v: %v, %v", p, d, ok)
		}
		if !slices.Equal(s.Live, live) || !same(p, was) {
			t.Fatal("what was handed in was changed")
		}
	}
}

// P36.1: an event ahead of the same replica, whatever its number is.
func TestOrderStrange(t *testing.T) {
	s := api.State{Seen: api.Vector{9, 9}}
	order := func(l ...api.Dot) []api.Dot {
		var p api.Past
		for _, d := range l {
			p.Events = append(p.Events, put(d))
		}
		var told []api.Dot
		for _, x := range audit.Look(s, p) {
			if x.Kind == api.TOrder {
				told = append(told, x.Dot)
			}
		}
		return told
	}
	for _, c := range []struct{ l, want []api.Dot }{
		{[]api.Dot{dot(0, 1), dot(0, 2), dot(0, 3)}, nil},
		{[]api.Dot{dot(0, 3), dot(1, 1), dot(0, 1), dot(0, 2), dot(0, 3), dot(0, 4)}, []api.Dot{dot(0, 1), dot(0, 2)}},
		{[]api.Dot{dot(0, 2), dot(1, 1), dot(1, 2), dot(0, 1)}, []api.Dot{dot(0, 1)}},
		{[]api.Dot{dot(0, -5), dot(0, -9), dot(0, -5)}, []api.Dot{dot(0, -9)}},
		{[]api.Dot{dot(-7, 3), dot(-7, 2), dot(7, 1)}, []api.Dot{dot(-7, 2)}},
		{[]api.Dot{dot(64, math.MaxInt), dot(64, math.MinInt), dot(0, 1)}, []api.Dot{dot(64, math.MinInt)}},
		{[]api.Dot{dot(1<<32, 5), dot(0, 4)}, nil},
		{[]api.Dot{dot(0, 5), dot(0, 5)}, nil},
	} {
		if got := order(c.l...); !slices.Equal(got, c.want) {
			t.Errorf("%v: %v, not %v", c.l, got, c.want)
		}
	}
}

// P36.2
func TestText(t *testing.T) {
	words := []string{"?", "state", "event", "unknown", "order", "gone", "live", "floor", "twice", "?", "?"}
	all := ""
	var l []api.Trouble
	for kind, word := range words {
		for _, d := range []api.Dot{{}, dot(0, 1), dot(63, api.MaxCount)} {
			want := word + " " + strconv.Itoa(d.Rep) + "." + strconv.Itoa(d.N) + "\n"
			if got := audit.Text([]api.Trouble{{Kind: kind, Dot: d}}); got != want {
				t.Errorf("%d of %v: %q, not %q", kind, d, got, want)
			}
			l = append(l, api.Trouble{Kind: kind, Dot: d})
			all += want
		}
	}
	was := slices.Clone(l)
	if got := audit.Text(l); got != all || !slices.Equal(l, was) {
		t.Errorf("%q, not %q", got, all)
	}
	for _, kind := range []int{math.MinInt, -1, 9, 10, 255, 1 << 32, 1<<32 + 1, math.MaxInt} {
		if got := audit.Text([]api.Trouble{{Kind: kind, Dot: dot(1, 2)}}); got != "? 1.2\n" {
			t.Errorf("%d: %q", kind, got)
		}
	}
	if got := audit.Text(nil) + audit.Text([]api.Trouble{}); got != "" {
		t.Error(got)
	}
	if got := audit.Text([]api.Trouble{{Kind: 1, Dot: dot(math.MinInt, math.MaxInt)}}); got != "state -9223372036854775808.9223372036854775807\n" {
		t.Error(got)
	}
}

// P36.3
func TestSums(t *testing.T) {
	s := api.State{Seen: api.Vector{9}, Live: []api.Write{write(dot(0, 1), "b"), write(dot(0, 1), "a"), write(dot(63, api.MaxCount), "c"), write(dot(2, 7), "c")}}
	p := api.Past{Events: []api.Event{put(dot(0, 1)), drop(dot(1, 1)), put(dot(1, 1)), {Dot: dot(1, 2)}}, Floor: api.Vector{0, 0, 9}}
	for _, d := range badDots {
		s.Live = append(s.Live, write(d, "z"))
		p.Events = append(p.Events, put(d))
	}
	writes, events := audit.Sums(s, p)
	if writes != (api.Vector{0: 2, 2: 1, 63: 1}) || events != (api.Vector{0: 1, 1: 3}) {
		t.Error(writes, events)
	}
	if writes, events := audit.Sums(api.State{}, api.Past{}); writes != (api.Vector{}) || events != (api.Vector{}) {
		t.Error(writes, events)
	}
	if writes, events := audit.Sums(s, api.Past{}); writes == (api.Vector{}) || events != (api.Vector{}) {
		t.Error(writes, events)
	}
}

// P36.3
func TestOldest(t *testing.T) {
	at := func(time int, d api.Dot) api.Event {
		e := put(d)
		e.Time = time
		return e
	}
	for _, c := range []struct {
		l    []api.Event
		want api.Dot
	}{
		{[]api.Event{at(5, dot(3, 4))}, dot(3, 4)},
		{[]api.Event{at(5, dot(0, 1)), at(4, dot(9, 9)), at(6, dot(0, 2))}, dot(9, 9)},
		{[]api.Event{at(5, dot(1, 1)), at(5, dot(0, 9)), at(5, dot(0, 8)), at(5, dot(2, 1))}, dot(0, 8)},
		{[]api.Event{at(0, dot(1, 1)), at(-3, dot(2, 9)), at(math.MinInt, dot(5, 5)), at(math.MaxInt, dot(0, 1))}, dot(5, 5)},
		{[]api.Event{at(math.MaxInt, dot(1, 1)), at(math.MaxInt, dot(0, 7))}, dot(0, 7)},
		{[]api.Event{at(3, dot(0, 1)), at(3, dot(-1, 1))}, dot(-1, 1)},
		{[]api.Event{{}}, dot(0, 0)},
	} {
		if got, ok := audit.Oldest(api.Past{Events: c.l}); !ok || got != c.want {
			t.Errorf("%v: %v, %v", c.l, got, ok)
		}
	}
	for _, p := range []api.Past{{}, {Events: []api.Event{}}, {Floor: api.Vector{4}}} {
		if got, ok := audit.Oldest(p); ok || got != (api.Dot{}) {
			t.Error(got, ok)
		}
	}
}

// P36.1: so many events that each can't be held against each.
func TestMany(t *testing.T) {
	s := api.State{Seen: api.Vector{api.MaxCount, api.MaxCount}}
	var p api.Past
	for i := range 200000 {
		p.Events = append(p.Events, put(dot(i%2, i+1)))
	}
	if !audit.Fine(s, p) {
		t.Error("not fine")
	}
	p.Events = append(p.Events, put(dot(0, 1)))
	if got := audit.Look(s, p); !slices.Equal(got, []api.Trouble{{Kind: api.TOrder, Dot: dot(0, 1)}, {Kind: api.TTwice, Dot: dot(0, 1)}}) {
		t.Error(got)
	}
}
