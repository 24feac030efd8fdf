package replica

import (
	"scholia/api"
	"scholia/coder"
	"scholia/docs"
	"scholia/dots"
	"scholia/past"
)

// What a record begins with.
const (
	cameOne   = 1 // events
	cameTop   = 2
	cameWhole = 3 // a state and a past
)

// most is more events than a snapshot has room for: removals are kept till all have them, however many there are.
const most = 1 << 18

// snapshot is the bytes of all that a replica of that number, one of n, knows.
func (k known) snapshot(self, n int) []byte {
	b := coder.Num(coder.Num(nil, self), n)
	b = coder.Num(coder.Num(b, k.top), k.clock)
	return past.Put(docs.Put(b, k.state), k.past)
}

// ofEvents, ofTop and ofWhole are records.
func ofEvents(l ...api.Event) []byte {
	return past.PutEvents(coder.Num(nil, cameOne), l)
}

func ofTop(top int) []byte {
	return coder.Num(coder.Num(nil, cameTop), top)
}

func ofWhole(s api.State, p api.Past) []byte {
	return past.Put(docs.Put(coder.Num(nil, cameWhole), s), p)
}

// read is what a replica of that number, one of n, knows behind a snapshot and records; false: they are none of such a one.
func read(snap []byte, records [][]byte, self, n int) (known, bool) {
	k, ok := readSnapshot(snap, self, n)
	for _, b := range records {
		if !ok {
			return known{}, false
		}
		k, ok = k.behindRecord(b, self)
	}
	return k, ok
}

// readSnapshot is what a snapshot says; false: it is none of such a replica.
func readSnapshot(b []byte, self, n int) (known, bool) {
	r := coder.Read(b)
	whose := [2]int{r.Num(api.MaxReps), r.Num(api.MaxReps)}
	k := known{top: r.Num(api.MaxCount), clock: r.Num(api.MaxTime)}
	k.state, k.past = docs.ReadState(r), readPast(r)
	if r.End() != api.OK || whose != [2]int{self, n} || !k.sound(self) {
		return known{}, false
	}
	return k, true
}

// readPast reads a past, also one of more events than past.Read takes.
func readPast(r *coder.In) api.Past {
	return api.Past{Floor: dots.Read(r), Events: past.ReadEvents(r, most)}
}

// behindRecord is what is known behind a record; false: it is none of such a replica.
func (k known) behindRecord(b []byte, self int) (known, bool) {
	r := coder.Read(b)
	switch r.Num(cameWhole) {
	case cameOne:
		k = k.behind(past.ReadEvents(r, api.MaxBatch)...)
	case cameTop:
		k.top = r.Num(api.MaxCount)
	case cameWhole:
		s := docs.ReadState(r)
		k = k.joined(s, readPast(r))
	default:
		r.Fail(api.EFORM)
	}
	if r.End() != api.OK || !k.sound(self) {
		return known{}, false
	}
	return k, true
}
