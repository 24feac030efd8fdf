package docs

import (
	"cmp"
	"slices"

	"scholia/api"
	"scholia/dots"
)

// maxWrites is how many writes a state may have.
const maxWrites = 1 << 12

// compare holds two writes against each other as they stand in a state: by document, field and dot.
func compare(a, b api.Write) int {
	return cmp.Or(cmp.Compare(a.Doc, b.Doc), cmp.Compare(a.Field, b.Field), dots.Compare(a.Dot, b.Dot))
}

// Apply is a state behind an event: one that it knows changes nothing.
func Apply(s api.State, e api.Event) (api.State, api.Errno) {
	wrong := Check(e)
	if wrong != api.OK || dots.Has(s.Seen, e.Dot) {
		return api.State{Seen: s.Seen, Live: slices.Clone(s.Live)}, wrong
	}
	live := without(s.Live, func(w api.Write) bool { return slices.Contains(e.Gone, w.Dot) })
	if e.Kind == api.Put {
		live = insert(live, api.Write{Dot: e.Dot, Time: e.Time, Doc: e.Doc, Field: e.Field, Text: e.Text})
	}
	return api.State{Seen: dots.With(s.Seen, e.Dot), Live: live}, api.OK
}

// without is the writes that do not go, in new memory.
func without(l []api.Write, goes func(w api.Write) bool) []api.Write {
	return slices.DeleteFunc(slices.Clone(l), goes)
}

// insert puts a write ahead of the first that does not stand ahead of it; a list that nobody else has, as it may be changed.
func insert(l []api.Write, w api.Write) []api.Write {
	at := 0
	for at < len(l) && compare(l[at], w) < 0 {
		at++
	}
	return slices.Insert(l, at, w)
}

// Join is what two states know, as one: of a write that both know it is there, if it is in both.
func Join(a, b api.State) api.State {
	live := once(slices.Concat(left(a, b), left(b, a)))
	slices.SortStableFunc(live, compare)
	return api.State{Seen: dots.Join(a.Seen, b.Seen), Live: live}
}

// left is the writes of a state that another one has, too, or does not know.
func left(s, other api.State) []api.Write {
	has := map[api.Write]struct{}{}
	for _, w := range other.Live {
		has[w] = struct{}{}
	}
	return without(s.Live, func(w api.Write) bool {
		_, both := has[w]
		return !both && dots.Has(other.Seen, w.Dot)
	})
}

// once is writes, each where it stands first.
func once(l []api.Write) []api.Write {
	met := map[api.Write]struct{}{}
	var kept []api.Write
	for _, w := range l {
		if _, again := met[w]; !again {
			met[w] = struct{}{}
			kept = append(kept, w)
		}
	}
	return kept
}

// Same tells whether two states are the same.
func Same(a, b api.State) bool {
	return a.Seen == b.Seen && slices.Equal(a.Live, b.Live)
}

// Can tells whether a state can be.
func Can(s api.State) bool {
	if !dots.Good(s.Seen) || len(s.Live) > maxWrites {
		return false
	}
	for i, w := range s.Live {
		if !mayWrite(w) || !dots.Has(s.Seen, w.Dot) || i > 0 && compare(s.Live[i-1], w) >= 0 {
			return false
		}
	}
	return true
}

// mayWrite tells whether a Put may write that.
func mayWrite(w api.Write) bool {
	return Check(api.Event{Dot: w.Dot, Time: w.Time, Kind: api.Put, Doc: w.Doc, Field: w.Field, Text: w.Text}) == api.OK
}
