// Package fold is layer 4: see ../../shared/doc/04-fold.md.
package fold

import (
	"scholia/utf"
)

// row is great letters: each step-th one of a stretch, and how far their small ones stand above them.
type row struct{ from, to, step, up int }

var great = []row{
	{0x41, 0x5A, 1, 32},
	{0xC0, 0xD6, 1, 32},
	{0xD8, 0xDE, 1, 32},
	{0x100, 0x12E, 2, 1},
	{0x132, 0x136, 2, 1},
	{0x139, 0x147, 2, 1},
	{0x14A, 0x176, 2, 1},
	{0x179, 0x17D, 2, 1},
	{0x391, 0x3A1, 1, 32},
	{0x3A3, 0x3A9, 1, 32},
	{0x400, 0x40F, 1, 80},
	{0x410, 0x42F, 1, 32},
	{0x460, 0x480, 2, 1},
}

// stretch is signs that follow one another.
type stretch struct{ from, to int }

var letters = []stretch{
	{0x41, 0x5A},
	{0x61, 0x7A},
	{0xC0, 0xD6},
	{0xD8, 0xF6},
	{0xF8, 0x24F},
	{0x370, 0x37D},
	{0x37F, 0x386},
	{0x388, 0x52F},
}

// Lower is the small letter of a sign; itself, if it has none.
func Lower(r int) int {
	for _, g := range great {
		if r >= g.from && r <= g.to && (r-g.from)%g.step == 0 {
			return r + g.up
		}
	}
	return r
}

// Digit tells whether a sign is a digit.
func Digit(r int) bool {
	return r >= 0x30 && r <= 0x39
}

// Letter tells whether a sign is a letter.
func Letter(r int) bool {
	for _, l := range letters {
		if r >= l.from && r <= l.to {
			return true
		}
	}
	return false
}

// Word tells whether a sign may stand in a word.
func Word(r int) bool {
	return Letter(r) || Digit(r)
}

// Text is a text with its letters small; what is no sign stays as it is.
func Text(s string) string {
	out := make([]byte, 0, len(s))
	for at := 0; at < len(s); {
		r, n := utf.Next(s, at)
		if small := Lower(r); small != r {
			// Onto nothing: utf.Put copies all that it is handed.
			out = append(out, utf.Put(nil, small)...)
		} else {
			out = append(out, s[at:at+n]...)
		}
		at += n
	}
	return string(out)
}
