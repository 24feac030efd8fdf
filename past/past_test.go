package past_test

import (
	"math"
	"math/rand"
	"slices"
	"testing"

	"scholia/api"
	"scholia/past"
)

// P13.1: the chapter's example.
func TestExample(t *testing.T) {
	var p api.Past
	a, b, c := put(dot(0, 1)), drop(dot(0, 2), dot(0, 1)), put(dot(1, 1))
	for _, e := range []api.Event{a, b, c} {
		p = past.Add(p, e)
	}
	p = past.Trim(p, 1)
	if !samePast(p, api.Past{Events: []api.Event{b, c}, Floor: api.Vector{1}}) {
		t.Error(p)
	}
}

// P13.1
func TestAdd(t *testing.T) {
	first := put(dot(0, 1), dot(3, 3))
	p := past.Add(api.Past{Floor: api.Vector{5}}, first)
	if !samePast(p, api.Past{Events: []api.Event{first}, Floor: api.Vector{5}}) {
		t.Fatal(p)
	}
	// One of that dot, whatever else it has, is not added.
	for _, e := range []api.Event{first, put(dot(0, 1)), drop(dot(0, 1)), {Dot: dot(0, 1)}} {
		if got := past.Add(p, e); !samePast(got, p) {
			t.Fatal(got)
		}
	}
	// Any other one is, also one that the floor has, and one that may not be.
	for _, e := range append([]api.Event{put(dot(0, 2)), put(dot(1, 1)), drop(dot(0, 3)), {Kind: 9}}, put(dot(64, 0)), put(dot(-1, math.MinInt))) {
		if got := past.Add(p, e); !samePast(got, api.Past{Events: []api.Event{first, e}, Floor: api.Vector{5}}) {
			t.Fatal(got)
		}
	}
	// What is there twice by hand stays so.
	twice := api.Past{Events: []api.Event{first, put(dot(2, 2)), first}}
	if got := past.Add(twice, first); !samePast(got, twice) {
		t.Fatal(got)
	}
	if got := past.Add(twice, put(dot(4, 4))); !samePast(got, api.Past{Events: append(clone(twice.Events), put(dot(4, 4)))}) {
		t.Fatal(got)
	}
}

// trimmed is by the words of the chapter a past behind Trim.
func trimmed(p api.Past, most int) api.Past {
	most = max(most, 0)
	others := 0
	for _, e := range p.Events {
		if e.Kind != api.Drop {
			others++
		}
	}
	kept := api.Past{Floor: p.Floor}
	for _, e := range p.Events {
		if e.Kind != api.Drop && others > most {
			others--
			kept.Floor = with(kept.Floor, e.Dot)
			continue
		}
		kept.Events = append(kept.Events, e)
	}
	return kept
}

// P13.1
func TestTrim(t *testing.T) {
	rnd := rand.New(rand.NewSource(1))
	for range 2000 {
		p := somePast(rnd)
		for _, most := range []int{math.MinInt, -1, 0, 1, 2, 3, 5, 8, 13, 14, 15, 1 << 32, math.MaxInt} {
			if got, want := past.Trim(p, most), trimmed(p, most); !samePast(got, want) {
				t.Fatalf("%v to %d: %v, not %v", p, most, got, want)
			}
		}
	}
	if got := past.Trim(api.Past{}, 3); !samePast(got, api.Past{}) {
		t.Error(got)
	}
}

// P13.1
func TestCollect(t *testing.T) {
	rnd := rand.New(rand.NewSource(2))
	for range 3000 {
		p, stable := somePast(rnd), someVector(rnd)
		want := api.Past{Floor: p.Floor}
		for _, e := range p.Events {
			if has(stable, e.Dot) {
				want.Floor = with(want.Floor, e.Dot)
			} else {
				want.Events = append(want.Events, e)
			}
		}
		if got := past.Collect(p, stable); !samePast(got, want) {
			t.Fatalf("%v by %v: %v, not %v", p, stable, got, want)
		}
	}
	// The floor has what went, not all that is stable.
	p := api.Past{Events: []api.Event{drop(dot(0, 2)), put(dot(1, 3)), drop(dot(1, 4))}, Floor: api.Vector{1, 1, 1}}
	if got := past.Collect(p, api.Vector{9, 3, 9, 9}); !samePast(got, api.Past{Events: []api.Event{drop(dot(1, 4))}, Floor: api.Vector{2, 3, 1}}) {
		t.Error(got)
	}
}

// P13.1
func TestSince(t *testing.T) {
	rnd := rand.New(rand.NewSource(3))
	yes, no := 0, 0
	for range 3000 {
		p, v := somePast(rnd), someVector(rnd)
		within := true
		for rep := range p.Floor {
			within = within && p.Floor[rep] <= v[rep]
		}
		var news []api.Event
		for _, e := range p.Events {
			if !has(v, e.Dot) {
				news = append(news, e)
			}
		}
		for _, most := range []int{math.MinInt, -1, 0, 1, 2, 3, 5, 14, 15, math.MaxInt} {
			got, ok := past.Since(p, v, most)
			if ok != within {
				t.Fatalf("%v since %v: %v", p, v, ok)
			}
			if !ok {
				no++
				if len(got) != 0 {
					t.Fatal(got)
				}
				continue
			}
			yes++
			if want := news[:min(max(most, 0), len(news))]; !same(got, want) {
				t.Fatalf("%v since %v, %d: %v, not %v", p, v, most, got, want)
			}
		}
	}
	if yes < 3000 || no < 3000 {
		t.Error("too few of one kind", yes, no)
	}
	// At each place.
	for rep := range 64 {
		var floor api.Vector
		floor[rep] = 4
		p := api.Past{Events: []api.Event{put(dot(rep, 5))}, Floor: floor}
		for n, want := range []bool{3: false, 4: true, 5: true} {
			var v api.Vector
			v[rep] = n
			if l, ok := past.Since(p, v, 9); ok != want || ok && len(l) != 5-n {
				t.Errorf("%d at %d: %v, %v", n, rep, l, ok)
			}
		}
	}
}

// P13.1
func TestJoin(t *testing.T) {
	rnd := rand.New(rand.NewSource(4))
	for range 3000 {
		a, b := somePast(rnd), somePast(rnd)
		want := clonePast(a)
		for _, e := range b.Events {
			if !slices.ContainsFunc(want.Events, func(x api.Event) bool { return x.Dot == e.Dot }) {
				want.Events = append(want.Events, e)
			}
		}
		for rep := range want.Floor {
			want.Floor[rep] = max(a.Floor[rep], b.Floor[rep])
		}
		if got := past.Join(a, b); !samePast(got, want) {
			t.Fatalf("%v and %v: %v, not %v", a, b, got, want)
		}
	}
	a := api.Past{Events: []api.Event{put(dot(0, 2)), put(dot(0, 1))}, Floor: api.Vector{1, 2}}
	b := api.Past{Events: []api.Event{drop(dot(0, 2)), put(dot(1, 1)), drop(dot(1, 1))}, Floor: api.Vector{2, 1, 63: 1}}
	if got := past.Join(a, b); !samePast(got, api.Past{Events: []api.Event{put(dot(0, 2)), put(dot(0, 1)), put(dot(1, 1))}, Floor: api.Vector{2, 2, 63: 1}}) {
		t.Error(got)
	}
	if got := past.Join(b, api.Past{}); !samePast(got, b) { // what is there twice by hand stays so
		t.Error(got)
	}
}

// P13.1
func TestDrops(t *testing.T) {
	for n, l := range [][]api.Event{
		{},
		{drop(dot(0, 1))},
		{drop(dot(0, 1)), put(dot(0, 2)), drop(dot(0, 1)), {Kind: 0}, {Kind: 3}, {Kind: -2}, {Kind: 1<<32 + 2}},
		{drop(dot(0, 1)), drop(dot(9, 2)), drop(dot(64, 0))},
	} {
		if got := past.Drops(api.Past{Events: l, Floor: api.Vector{9}}); got != n {
			t.Errorf("%v: %d", l, got)
		}
	}
	if past.Drops(api.Past{}) != 0 {
		t.Error("removals of none")
	}
}

// P13.1: all fields.
func TestSame(t *testing.T) {
	rnd := rand.New(rand.NewSource(5))
	changes := []func(e *api.Event){
		func(e *api.Event) { e.Dot.Rep++ }, func(e *api.Event) { e.Dot.N++ }, func(e *api.Event) { e.Time++ }, func(e *api.Event) { e.Kind++ },
		func(e *api.Event) { e.Doc += "a" }, func(e *api.Event) { e.Field++ }, func(e *api.Event) { e.Text += "a" },
		func(e *api.Event) { e.Gone = append(e.Gone, dot(0, 1)) },
	}
	for range 1000 {
		p := somePast(rnd)
		if q := clonePast(p); !past.Same(p, q) || !past.SameEvents(p.Events, q.Events) {
			t.Fatal(p)
		}
		q := clonePast(p)
		q.Floor[rnd.Intn(64)]++
		if past.Same(p, q) || past.Same(q, p) || !past.SameEvents(p.Events, q.Events) {
			t.Fatal(p, q)
		}
		for i := range p.Events {
			for _, c := range changes {
				q := clonePast(p)
				c(&q.Events[i])
				if past.Same(p, q) || past.Same(q, p) || past.SameEvents(p.Events, q.Events) || past.SameEvents(q.Events, p.Events) {
					t.Fatal(p, q)
				}
			}
			for k := range p.Events[i].Gone {
				q := clonePast(p)
				q.Events[i].Gone[k].N++
				if past.Same(p, q) || past.SameEvents(p.Events, q.Events) {
					t.Fatal(p, q)
				}
			}
			q := clonePast(p)
			q.Events = slices.Delete(q.Events, i, i+1)
			if past.Same(p, q) || past.Same(q, p) || past.SameEvents(p.Events, q.Events) || past.SameEvents(q.Events, p.Events) {
				t.Fatal(p, q)
			}
		}
	}
	e := put(dot(0, 1))
	e.Gone = []api.Dot{}
	if !past.SameEvents([]api.Event{e}, []api.Event{put(dot(0, 1))}) || !past.SameEvents(nil, []api.Event{}) || !past.Same(api.Past{}, api.Past{Events: []api.Event{}}) {
		t.Error("none is not none")
	}
	if past.SameEvents([]api.Event{put(dot(0, 1)), put(dot(0, 2))}, []api.Event{put(dot(0, 2)), put(dot(0, 1))}) {
		t.Error("the order does not tell")
	}
}

// P13.1: nothing that is handed in or out is shared, the lists of events neither.
func TestMemory(t *testing.T) {
	rnd := rand.New(rand.NewSource(6))
	v := api.Vector{3, 3, 3, 3}
	e := put(dot(7, 1), dot(1, 1), dot(1, 2))
	calls := []func(a, b api.Past) []api.Event{
		func(a, b api.Past) []api.Event { return past.Add(a, b.Events[0]).Events },
		func(a, b api.Past) []api.Event { return past.Add(a, a.Events[0]).Events },
		func(a, b api.Past) []api.Event { return past.Trim(a, 2).Events },
		func(a, b api.Past) []api.Event { return past.Trim(a, 100).Events },
		func(a, b api.Past) []api.Event { return past.Collect(a, v).Events },
		func(a, b api.Past) []api.Event { return past.Collect(a, api.Vector{}).Events },
		func(a, b api.Past) []api.Event { return past.Join(a, b).Events },
		func(a, b api.Past) []api.Event { return past.Join(b, a).Events },
		func(a, b api.Past) []api.Event { l, _ := past.Since(a, v, 100); return l },
		func(a, b api.Past) []api.Event { l, _ := past.Since(a, v, 2); return l },
		func(a, b api.Past) []api.Event { l, _ := past.Since(a, api.Vector{}, 100); return l },
	}
	for range 300 {
		p, q := somePast(rnd), somePast(rnd)
		p.Floor = api.Vector{}
		p.Events = append(p.Events, put(dot(5, 5), dot(0, 1)))
		q.Events = append([]api.Event{e}, q.Events...)
		for i, call := range calls {
			a, b := api.Past{Events: roomy(p.Events), Floor: p.Floor}, api.Past{Events: roomy(q.Events), Floor: q.Floor}
			wholeA, wholeB := whole(a.Events), whole(b.Events)
			first, second := call(a, b), call(a, b)
			want := clone(first)
			if !same(whole(a.Events), wholeA) || !same(whole(b.Events), wholeB) {
				t.Fatalf("%d: what was handed in was changed", i)
			}
			spoil(second)
			spoil(a.Events)
			spoil(b.Events)
			if !same(first, want) {
				t.Fatalf("%d: an answer shares memory", i)
			}
		}
	}
}

// kept is one that adds events, trims, collects and joins, and all that ever was added.
type kept struct {
	p     api.Past
	added []api.Event
}

// add adds an event, unless one of its dot ever was.
func (k *kept) add(e api.Event) {
	k.p = past.Add(k.p, e)
	if !slices.ContainsFunc(k.added, func(x api.Event) bool { return x.Dot == e.Dot }) {
		k.added = append(k.added, e)
	}
}

// dropDots is the dots of the removals of events.
func dropDots(l []api.Event) map[api.Dot]bool {
	m := map[api.Dot]bool{}
	for _, e := range l {
		if e.Kind == api.Drop {
			m[e.Dot] = true
		}
	}
	return m
}

// P13.3, P13.4
func TestKept(t *testing.T) {
	rnd := rand.New(rand.NewSource(7))
	asked := 0
	for range 200 {
		two := []*kept{{}, {}}
		next := map[int]int{}
		var all []api.Event // as they happened: an event is the same for both
		for range 60 {
			k, other := two[0], two[1]
			if rnd.Intn(2) == 0 {
				k, other = other, k
			}
			was := dropDots(k.p.Events)
			var stable api.Vector
			switch rnd.Intn(6) {
			case 0, 1, 2:
				rep := rnd.Intn(4)
				next[rep]++
				e := put(dot(rep, next[rep]))
				if rnd.Intn(3) == 0 {
					e = drop(dot(rep, next[rep]))
				}
				all = append(all, e)
				k.add(e)
				if rnd.Intn(2) == 0 {
					other.add(all[rnd.Intn(len(all))])
				}
			case 3:
				k.p = past.Trim(k.p, rnd.Intn(10)-1)
			case 4:
				stable = someVector(rnd)
				k.p = past.Collect(k.p, stable)
			case 5:
				k.p = past.Join(k.p, other.p)
				for _, e := range other.p.Events {
					k.add(e)
				}
			}
			now := dropDots(k.p.Events)
			for d := range was {
				if !now[d] && !has(stable, d) {
					t.Fatalf("the removal %v went", d)
				}
			}
			for _, v := range []api.Vector{k.p.Floor, someVector(rnd), with(k.p.Floor, dot(rnd.Intn(4), 1+rnd.Intn(9)))} {
				l, ok := past.Since(k.p, v, 1000)
				if !ok {
					continue
				}
				asked++
				for _, e := range k.added {
					there := slices.ContainsFunc(l, func(x api.Event) bool { return x.Dot == e.Dot })
					if there == has(v, e.Dot) {
						t.Fatalf("%v since %v: %v is there: %v", k.p, v, e.Dot, there)
					}
				}
			}
		}
	}
	if asked < 10000 {
		t.Error("too few were asked", asked)
	}
}
