// Package utf is layer 3: see ../../shared/doc/03-utf.md.
package utf

import (
	"strings"
)

// shape is how the bytes of signs look: which is the last sign of that shape, what is added to the first byte, and how many bytes stand behind it.
type shape struct{ last, lead, behind int }

var shapes = [...]shape{
	{0x7F, 0x00, 0},
	{0x7FF, 0xC0, 1},
	{0xFFFF, 0xE0, 2},
	{0x10FFFF, 0xF0, 3},
}

// Sign tells whether a number is a sign's.
func Sign(r int) bool {
	return r >= 0 && r < 0xD800 || r > 0xDFFF && r <= 0x10FFFF
}

// Next is the sign that begins at a place, and how many bytes it has: -1 and 1, if none begins there; -1 and 0, if the text has no such place.
func Next(s string, at int) (int, int) {
	if at < 0 || at >= len(s) {
		return -1, 0
	}
	first := int(s[at])
	k := led(first)
	n := 1 + shapes[k].behind
	if n > len(s)-at {
		return -1, 1
	}
	r := first - shapes[k].lead
	for i := range shapes[k].behind {
		c := int(s[at+1+i])
		if c&0xC0 != 0x80 {
			return -1, 1
		}
		r = r<<6 | c&0x3F
	}
	// A first byte that leads nothing comes to a sign of another shape, or to none.
	if !Sign(r) || shaped(r) != k {
		return -1, 1
	}
	return r, n
}

// led is the last shape whose first bytes do not lie above one.
func led(first int) int {
	k := len(shapes) - 1
	for first < shapes[k].lead {
		k--
	}
	return k
}

// shaped is a sign's shape.
func shaped(r int) int {
	k := 0
	for r > shapes[k].last {
		k++
	}
	return k
}

// Valid tells whether a text is UTF-8.
func Valid(s string) bool {
	for at := 0; at < len(s); {
		r, n := Next(s, at)
		if r < 0 {
			return false
		}
		at += n
	}
	return true
}

// Put is bytes, and a sign behind them; nothing, if there is no such sign.
func Put(b []byte, r int) []byte {
	out := append([]byte(nil), b...)
	if !Sign(r) {
		return out
	}
	x := shapes[shaped(r)]
	out = append(out, byte(x.lead|r>>(6*x.behind)))
	for i := range x.behind {
		out = append(out, byte(0x80|r>>(6*(x.behind-1-i))&0x3F))
	}
	return out
}

// Count is how many signs a text has; what is none counts as one a byte.
func Count(s string) int {
	count := 0
	for at := 0; at < len(s); count++ {
		_, n := Next(s, at)
		at += n
	}
	return count
}

// Cut is the longest beginning of at most so many bytes in which no sign is cut.
func Cut(s string, most int) string {
	at := 0
	for at < len(s) {
		_, n := Next(s, at)
		if n > most-at {
			break
		}
		at += n
	}
	// A copy, so that a short beginning does not hold the whole text in memory.
	return strings.Clone(s[:at])
}
