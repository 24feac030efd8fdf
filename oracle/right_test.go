package oracle

import (
	"testing"

	"scholia/api"
)

// P28.2: what would be wrong. A cluster has no such replica, so it is asked by states made by hand.
func TestWrong(t *testing.T) {
	put := func(rep, n int, doc, text string, gone ...api.Dot) api.Event {
		return api.Event{Dot: api.Dot{Rep: rep, N: n}, Time: n, Kind: api.Put, Doc: doc, Field: 1, Text: text, Gone: gone}
	}
	write := func(e api.Event) api.Write {
		return api.Write{Dot: e.Dot, Time: e.Time, Doc: e.Doc, Field: e.Field, Text: e.Text}
	}
	a, b := put(0, 1, "a", "red"), put(1, 1, "b", "blue")
	later := put(0, 2, "a", "fox", a.Dot)
	l := []api.Event{a, b, later}
	for what, x := range map[string]struct {
		seen api.Vector
		live []api.Event
		want bool
	}{
		"nothing":                         {api.Vector{}, nil, true},
		"one event":                       {api.Vector{1}, []api.Event{a}, true},
		"all":                             {api.Vector{2, 1}, []api.Event{later, b}, true},
		"what it does not know":           {api.Vector{1}, []api.Event{a, b}, false},
		"what it knows, and has not":      {api.Vector{1, 1}, []api.Event{a}, false},
		"what was taken away":             {api.Vector{2, 1}, []api.Event{a, b}, false},
		"a text that it can't know":       {api.Vector{1}, []api.Event{put(0, 1, "a", "Red")}, false},
		"what nobody did":                 {api.Vector{2, 2}, []api.Event{later, b, put(1, 2, "c", "")}, false},
		"what it takes away, not knowing": {api.Vector{1, 1}, []api.Event{b}, false},
	} {
		s := api.State{Seen: x.seen}
		for _, e := range x.live {
			s.Live = append(s.Live, write(e))
		}
		if right(s, l) != x.want {
			t.Errorf("%s: not %v", what, x.want)
		}
	}
}
