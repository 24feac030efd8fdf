package replica

import (
	"scholia/api"
	"scholia/docs"
	"scholia/stable"
)

// Put writes a text into a document's field: the event.
func (r *Replica) Put(doc string, field int, text string) (api.Event, api.Errno) {
	if !r.made() {
		return api.Event{}, api.ENIL
	}
	if !docs.Name(doc) {
		return api.Event{}, api.EARG
	}
	if e := docs.Text(field, text); e != api.OK {
		return api.Event{}, e
	}
	if len(docs.Of(r.state, doc, -1)) == 0 && len(docs.Names(r.state)) >= api.MaxDocs {
		return api.Event{}, api.EFULL
	}
	edit := api.Event{Kind: api.Put, Doc: doc, Field: field, Text: text}
	return r.do(edit, docs.Of(r.state, doc, field))
}

// Drop takes a document away: the event.
func (r *Replica) Drop(doc string) (api.Event, api.Errno) {
	if !r.made() {
		return api.Event{}, api.ENIL
	}
	writes := docs.Of(r.state, doc, -1)
	if len(writes) == 0 {
		return api.Event{}, api.ENONE
	}
	return r.do(api.Event{Kind: api.Drop, Doc: doc}, writes)
}

// do makes an event of an edit, which takes away some writes: it is kept, and known.
func (r *Replica) do(edit api.Event, writes []api.Write) (api.Event, api.Errno) {
	if len(writes) > api.MaxGone {
		return api.Event{}, api.EFULL
	}
	time, e := stable.Next(r.clock)
	if e != api.OK {
		return api.Event{}, e
	}
	if r.next > api.MaxCount {
		return api.Event{}, api.EOVER
	}
	if e := r.reserve(); e != api.OK {
		return api.Event{}, e
	}
	edit.Dot, edit.Time, edit.Gone = api.Dot{Rep: r.self, N: r.next}, time, docs.Gone(writes)
	if e := r.keep(ofEvents(edit)); e != api.OK {
		return api.Event{}, e
	}
	r.turn(r.behind(edit))
	r.next++
	return edit, api.OK
}

// reserve raises the top, if the next number is above it. That is there for good ahead of the number's use, so that no crash lets it be used again.
func (r *Replica) reserve() api.Errno {
	if r.next <= r.top {
		return api.OK
	}
	top := min(r.top+api.Reserve, api.MaxCount)
	if e := r.keep(ofTop(top)); e != api.OK {
		return e
	}
	if e := r.Sync(); e != api.OK {
		return e
	}
	r.top = top
	return api.OK
}
