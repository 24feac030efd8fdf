package docs

import (
	"slices"

	"scholia/api"
	"scholia/coder"
	"scholia/dots"
)

// PutDot is bytes, and a dot behind them; ReadDot reads one.
func PutDot(b []byte, d api.Dot) []byte {
	return coder.Num(coder.Num(b, d.Rep), d.N)
}

func ReadDot(r *coder.In) api.Dot {
	d := api.Dot{Rep: r.Num(api.MaxReps - 1), N: r.Num(api.MaxCount)}
	if r.Err() != api.OK {
		return api.Dot{}
	}
	return d
}

// Put is bytes, and a state that can be behind them.
func Put(b []byte, s api.State) []byte {
	if !Can(s) {
		return slices.Clone(b)
	}
	b = coder.Num(dots.Put(b, s.Seen), len(s.Live))
	for _, w := range s.Live {
		b = append(b, written(w)...)
	}
	return b
}

// written is a write's bytes.
func written(w api.Write) []byte {
	b := coder.Num(PutDot(nil, w.Dot), w.Time)
	b = coder.Num(coder.Text(b, w.Doc), w.Field)
	return coder.Text(b, w.Text)
}

// ReadState reads a state.
func ReadState(r *coder.In) api.State {
	s := api.State{Seen: dots.Read(r)}
	for range r.Num(maxWrites) {
		s.Live = append(s.Live, readWrite(r))
	}
	if r.Err() == api.OK && !Can(s) {
		r.Fail(api.EFORM)
	}
	if r.Err() != api.OK {
		return api.State{}
	}
	return s
}

// readWrite reads a write, whether it may be or not.
func readWrite(r *coder.In) api.Write {
	return api.Write{
		Dot:   ReadDot(r),
		Time:  r.Num(api.MaxTime),
		Doc:   r.Text(api.MaxName),
		Field: r.Num(api.Fields),
		Text:  r.Text(api.MaxText),
	}
}
