package segment

import (
	"math"

	"scholia/api"
	"scholia/bits"
	"scholia/coder"
	"scholia/dict"
	"scholia/posting"
)

// Bytes is a segment as bytes: its names, those that are there, its dictionary, and each term's postings.
func (s *Segment) Bytes() []byte {
	if s == nil || s.live == nil {
		return nil
	}
	b := coder.Num(nil, len(s.names))
	for _, name := range s.names {
		b = append(b, coder.Text(nil, name)...)
	}
	b = append(b, s.live.Bytes()...)
	b = append(b, s.words.Bytes()...)
	for _, list := range s.lists {
		b = append(b, coder.Text(nil, string(list))...)
	}
	return b
}

// Read reads a segment; nil with an error.
func Read(r *coder.In) *Segment {
	s := &Segment{names: texts(r, r.Num(math.MaxInt)), live: bits.Read(r), words: dict.Read(r)}
	for _, list := range texts(r, s.words.Len()) {
		s.lists = append(s.lists, []byte(list))
	}
	if !s.sound() {
		r.Fail(api.EFORM) // unless it has an error, which comes first
	}
	if r.Err() != api.OK {
		return nil
	}
	return s
}

// texts reads so many texts, as long as there is no error.
func texts(r *coder.In, many int) []string {
	var l []string
	for range many {
		s := r.Text(math.MaxInt)
		if r.Err() != api.OK {
			return nil
		}
		l = append(l, s)
	}
	return l
}

// sound tells whether what was read may be: names, as many numbers, and of each term postings of these.
func (s *Segment) sound() bool {
	if !proper(s.names) || s.live.Size() != len(s.names) {
		return false
	}
	for _, list := range s.lists {
		l, _ := posting.Decode(list)
		if len(l) == 0 || l[len(l)-1].Doc >= len(s.names) {
			return false
		}
	}
	return true
}
