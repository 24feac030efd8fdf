package docs_test

import (
	"encoding/hex"
	"math"
	"math/rand"
	"slices"

	"scholia/api"
)

func unhex(s string) []byte {
	b, err := hex.DecodeString(s)
	if err != nil {
		panic(err)
	}
	return b
}

// dot is a short way to write one.
func dot(rep, n int) api.Dot { return api.Dot{Rep: rep, N: n} }

// badDots: dots that may not be.
var badDots = []api.Dot{
	{}, {Rep: -1, N: 1}, {Rep: 64, N: 1}, {Rep: 0, N: 0}, {Rep: 63, N: 0}, {Rep: 0, N: -1}, {Rep: 1, N: api.MaxCount + 1},
	{Rep: math.MinInt, N: math.MaxInt}, {Rep: math.MaxInt, N: math.MinInt}, {Rep: 63, N: math.MaxInt}, {Rep: 63, N: math.MinInt},
	{Rep: 1 << 32, N: 3}, {Rep: 3, N: 1 << 32}, {Rep: 3, N: 1<<32 + 1}, {Rep: -1 << 63, N: 1},
}

// ahead tells by the words of the chapter whether a write stands ahead of another one in a state.
func ahead(a, b api.Write) bool {
	if a.Doc != b.Doc {
		return a.Doc < b.Doc
	}
	if a.Field != b.Field {
		return a.Field < b.Field
	}
	if a.Dot.Rep != b.Dot.Rep {
		return a.Dot.Rep < b.Dot.Rep
	}
	return a.Dot.N < b.Dot.N
}

// made is by the words of the chapter what events make: all that Puts wrote and no event takes away, in order.
func made(l []api.Event) []api.Write {
	gone := map[api.Dot]bool{}
	for _, e := range l {
		for _, d := range e.Gone {
			gone[d] = true
		}
	}
	var live []api.Write
	for _, e := range l {
		if e.Kind == api.Put && !gone[e.Dot] {
			live = append(live, api.Write{Dot: e.Dot, Time: e.Time, Doc: e.Doc, Field: e.Field, Text: e.Text})
		}
	}
	slices.SortFunc(live, func(a, b api.Write) int {
		if ahead(a, b) {
			return -1
		}
		return 1
	})
	return live
}

// sameState tells whether two states are the same, number by number.
func sameState(a, b api.State) bool {
	return a.Seen == b.Seen && slices.Equal(a.Live, b.Live)
}

// cloneState is a state in memory of its own.
func cloneState(s api.State) api.State {
	return api.State{Seen: s.Seen, Live: slices.Clone(s.Live)}
}

// roomy is writes with room behind their end that is written to, too.
func roomy(l []api.Write) []api.Write {
	room := make([]api.Write, len(l)+6)
	for i := range room {
		room[i] = api.Write{Dot: dot(9, 9), Time: 9, Doc: "room", Field: 2, Text: "room"}
	}
	copy(room, l)
	return room[:len(l)]
}

// spoil turns all that a list has, the room behind its end, too.
func spoil(l []api.Write) {
	l = l[:cap(l)]
	for i := range l {
		l[i] = api.Write{Dot: dot(5, 555), Time: 5, Doc: "spoilt", Field: 3, Text: "spoilt"}
	}
}

// The names and texts that states of the tests are made of.
var (
	someNames = []string{"a", "b", "c-1", "0"}
	someTexts = []string{"", "x", "red fox", "é", "\n\\"}
)

// someWrite is a write of few, so that some stand alike, and some are the same.
func someWrite(rnd *rand.Rand) api.Write {
	return api.Write{
		Dot:   dot(rnd.Intn(3), 1+rnd.Intn(4)),
		Time:  1 + rnd.Intn(2),
		Doc:   someNames[rnd.Intn(len(someNames))],
		Field: 1 + rnd.Intn(2),
		Text:  someTexts[rnd.Intn(2)],
	}
}

// someState is a state by hand: in no order, its writes known or not, some of them twice.
func someState(rnd *rand.Rand) api.State {
	var s api.State
	for rep := range 3 {
		s.Seen[rep] = rnd.Intn(6) - 1
	}
	for range rnd.Intn(12) {
		s.Live = append(s.Live, someWrite(rnd))
	}
	return s
}
