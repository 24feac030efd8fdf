package past_test

import (
	"encoding/hex"
	"math"
	"math/rand"
	"slices"

	"scholia/api"
)

func unhex(s string) []byte {
	b, err := hex.DecodeString(s)
	if err != nil {
		panic(err)
	}
	return b
}

// dot is a short way to write one.
func dot(rep, n int) api.Dot { return api.Dot{Rep: rep, N: n} }

// put and drop are short ways to write events.
func put(d api.Dot, gone ...api.Dot) api.Event {
	return api.Event{Dot: d, Time: 5, Kind: api.Put, Doc: "a", Field: 1, Text: "x", Gone: gone}
}

func drop(d api.Dot, gone ...api.Dot) api.Event {
	return api.Event{Dot: d, Time: 5, Kind: api.Drop, Doc: "a", Gone: gone}
}

// badDots: dots that may not be.
var badDots = []api.Dot{
	{}, {Rep: -1, N: 1}, {Rep: 64, N: 1}, {Rep: 0, N: 0}, {Rep: 63, N: 0}, {Rep: 0, N: -1}, {Rep: 1, N: api.MaxCount + 1},
	{Rep: math.MinInt, N: math.MaxInt}, {Rep: math.MaxInt, N: math.MinInt}, {Rep: 63, N: math.MaxInt}, {Rep: 1 << 32, N: 3}, {Rep: 3, N: 1<<32 + 1},
}

// same tells whether two lists of events are the same, number by number.
func same(a, b []api.Event) bool {
	if len(a) != len(b) {
		return false
	}
	for i := range a {
		x, y := a[i], b[i]
		if x.Dot != y.Dot || x.Time != y.Time || x.Kind != y.Kind || x.Doc != y.Doc || x.Field != y.Field || x.Text != y.Text || !slices.Equal(x.Gone, y.Gone) {
			return false
		}
	}
	return true
}

// samePast tells whether two pasts are the same.
func samePast(a, b api.Past) bool {
	return a.Floor == b.Floor && same(a.Events, b.Events)
}

// clone is events in memory of their own, with their lists.
func clone(l []api.Event) []api.Event {
	l = slices.Clone(l)
	for i := range l {
		l[i].Gone = slices.Clone(l[i].Gone)
	}
	return l
}

// clonePast is a past in memory of its own.
func clonePast(p api.Past) api.Past {
	return api.Past{Events: clone(p.Events), Floor: p.Floor}
}

// spoil turns all that events have, and the room behind their end.
func spoil(l []api.Event) {
	l = l[:cap(l)]
	for i := range l {
		gone := l[i].Gone[:cap(l[i].Gone)]
		for k := range gone {
			gone[k] = dot(8, 88)
		}
		l[i] = put(dot(9, 99))
	}
}

// roomy is events with room behind their end, and behind that of their lists.
func roomy(l []api.Event) []api.Event {
	room := make([]api.Event, len(l)+5)
	for i := range room {
		room[i] = put(dot(9, 9), dot(1, 1))
	}
	copy(room, l)
	for i := range room {
		gone := slices.Repeat([]api.Dot{dot(6, 6)}, len(room[i].Gone)+3)
		copy(gone, room[i].Gone)
		room[i].Gone = gone[:len(room[i].Gone)]
	}
	return room[:len(l)]
}

// whole is events with all that stands behind their end, in memory of its own.
func whole(l []api.Event) []api.Event {
	l = slices.Clone(l[:cap(l)])
	for i := range l {
		l[i].Gone = slices.Clone(l[i].Gone[:cap(l[i].Gone)])
	}
	return l
}

// someEvent is one of few dots, of any kind.
func someEvent(rnd *rand.Rand) api.Event {
	kinds := []int{api.Put, api.Put, api.Put, api.Drop, api.Drop, 0, 3}
	e := api.Event{
		Dot:   dot(rnd.Intn(4), 1+rnd.Intn(6)),
		Time:  rnd.Intn(9),
		Kind:  kinds[rnd.Intn(len(kinds))],
		Doc:   string(rune('a' + rnd.Intn(26))),
		Field: rnd.Intn(5),
		Text:  string(rune('a' + rnd.Intn(26))),
	}
	for range rnd.Intn(4) {
		e.Gone = append(e.Gone, dot(rnd.Intn(4), rnd.Intn(6)))
	}
	if rnd.Intn(12) == 0 {
		e.Dot = badDots[rnd.Intn(len(badDots))]
	}
	return e
}

// someVector is one of small numbers, at four places.
func someVector(rnd *rand.Rand) api.Vector {
	var v api.Vector
	for rep := range 4 {
		v[rep] = rnd.Intn(8) - 1
	}
	return v
}

// somePast is one by hand; some of its events may have one dot.
func somePast(rnd *rand.Rand) api.Past {
	var p api.Past
	for range rnd.Intn(14) {
		p.Events = append(p.Events, someEvent(rnd))
	}
	if rnd.Intn(2) == 0 {
		p.Floor = someVector(rnd)
	}
	return p
}

// has tells by the words of chapter 8 whether a vector has a dot.
func has(v api.Vector, d api.Dot) bool {
	return d.Rep >= 0 && d.Rep < 64 && d.N >= 1 && d.N <= 1<<30 && d.N <= v[d.Rep]
}

// with is by the words of chapter 8 a vector that has a dot.
func with(v api.Vector, d api.Dot) api.Vector {
	if d.Rep >= 0 && d.Rep < 64 && d.N >= 1 && d.N <= 1<<30 {
		v[d.Rep] = max(v[d.Rep], d.N)
	}
	return v
}
