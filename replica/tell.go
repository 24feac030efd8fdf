package replica

import (
	"slices"

	"scholia/api"
	"scholia/docs"
	"scholia/dots"
	"scholia/past"
	"scholia/wire"
)

// Send is a message to another one: all that it is not known to have.
func (r *Replica) Send(to int) ([]byte, api.Errno) {
	if !r.made() {
		return nil, api.ENIL
	}
	if !mayBe(to, r.n) || to == r.self {
		return nil, api.EPEER
	}
	if e := r.Sync(); e != api.OK {
		return nil, e
	}
	b, e := wire.Encode(r.news(to))
	if e != api.OK {
		return nil, api.EFULL
	}
	return b, api.OK
}

// news is what another one is not known to have; all of it, if some of it may be there no more.
func (r *Replica) news(to int) api.Msg {
	m := api.Msg{Kind: api.MAck, From: r.self, To: to, Ack: r.Safe()}
	row := r.rows.Row(to)
	l, ok := past.Since(r.past, row, api.MaxBatch)
	switch {
	case !ok:
		m.Kind, m.State, m.Floor, m.Events = api.MFull, r.state, r.past.Floor, r.past.Events
	case len(l) > 0:
		m.Kind, m.Base, m.Events = api.MDelta, row, l
	}
	return m
}

// Take takes a message in.
func (r *Replica) Take(b []byte) api.Errno {
	if !r.made() {
		return api.ENIL
	}
	m, e := wire.Decode(b)
	if e != api.OK {
		return e
	}
	if m.To != r.self || m.From >= r.n {
		return api.EPEER
	}
	if r.strange(m) {
		return api.EFORM
	}
	if e := r.learn(m); e != api.OK {
		return e
	}
	r.rows.Note(m.From, m.Ack)
	return api.OK
}

// strange tells whether a message has an event of the replica itself that this one does not know.
func (r *Replica) strange(m api.Msg) bool {
	return m.State.Seen[r.self] > r.state.Seen[r.self] ||
		slices.ContainsFunc(m.Events, func(e api.Event) bool { return e.Dot.Rep == r.self && !r.has(e) })
}

// learn takes in what a message has of events and documents.
func (r *Replica) learn(m api.Msg) api.Errno {
	switch m.Kind {
	case api.MDelta:
		return r.learnEvents(m)
	case api.MFull:
		return r.learnAll(m)
	}
	return api.OK
}

// learnEvents takes in the events of a delta.
func (r *Replica) learnEvents(m api.Msg) api.Errno {
	if !dots.Within(m.Base, r.state.Seen) {
		return api.EEARLY
	}
	k := r.known
	var l []api.Event
	for _, e := range m.Events {
		if !k.has(e) {
			k = k.behind(e)
			l = append(l, e)
		}
	}
	if len(l) == 0 {
		return api.OK
	}
	return r.keepAndKnow(ofEvents(l...), k)
}

// learnAll takes in the state and the past of a full message.
func (r *Replica) learnAll(m api.Msg) api.Errno {
	p := api.Past{Events: m.Events, Floor: m.Floor}
	k := r.joined(m.State, p)
	if k.same(r.known) {
		return api.OK
	}
	if !docs.Can(k.state) {
		return api.EFULL
	}
	return r.keepAndKnow(ofWhole(m.State, p), k)
}

// keepAndKnow keeps a record, and knows then what is known behind it.
func (r *Replica) keepAndKnow(b []byte, k known) api.Errno {
	if e := r.keep(b); e != api.OK {
		return e
	}
	r.turn(k)
	return api.OK
}
