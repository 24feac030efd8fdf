package past

import (
	"math"
	"slices"

	"scholia/api"
	"scholia/coder"
	"scholia/docs"
	"scholia/dots"
)

// maxKept is how many events a past may have that is read.
const maxKept = 1 << 12

// PutEvent is bytes, and an event that may be behind them.
func PutEvent(b []byte, e api.Event) []byte {
	return slices.Concat(b, written(e))
}

// written is an event's bytes; none, if it may not be.
func written(e api.Event) []byte {
	if docs.Check(e) != api.OK {
		return nil
	}
	b := docs.PutDot(nil, e.Dot)
	b = coder.Num(coder.Num(b, e.Time), e.Kind)
	b = coder.Num(coder.Text(b, e.Doc), e.Field)
	b = coder.Num(coder.Text(b, e.Text), len(e.Gone))
	for _, d := range e.Gone {
		b = docs.PutDot(b, d)
	}
	return b
}

// ReadEvent reads an event.
func ReadEvent(r *coder.In) api.Event {
	e := api.Event{
		Dot:   docs.ReadDot(r),
		Time:  r.Num(api.MaxTime),
		Kind:  r.Num(math.MaxInt), // of another kind is one that may not be, not one beyond a limit
		Doc:   r.Text(api.MaxName),
		Field: r.Num(api.Fields),
		Text:  r.Text(api.MaxText),
	}
	for range r.Num(api.MaxGone) {
		e.Gone = append(e.Gone, docs.ReadDot(r))
	}
	if r.Err() == api.OK && docs.Check(e) != api.OK {
		r.Fail(api.EFORM)
	}
	if r.Err() != api.OK {
		return api.Event{}
	}
	return e
}

// PutEvents is bytes, and events behind them: how many, and each; ReadEvents reads at most so many.
func PutEvents(b []byte, l []api.Event) []byte {
	b = coder.Num(b, len(l))
	for _, e := range l {
		b = append(b, written(e)...)
	}
	return b
}

func ReadEvents(r *coder.In, most int) []api.Event {
	var l []api.Event
	for range r.Num(most) {
		e := ReadEvent(r)
		if r.Err() != api.OK {
			return nil
		}
		l = append(l, e)
	}
	return l
}

// Put is bytes, and a past behind them; Read reads one.
func Put(b []byte, p api.Past) []byte {
	return PutEvents(dots.Put(b, p.Floor), p.Events)
}

func Read(r *coder.In) api.Past {
	p := api.Past{Floor: dots.Read(r), Events: ReadEvents(r, maxKept)}
	if r.Err() != api.OK {
		return api.Past{}
	}
	return p
}
