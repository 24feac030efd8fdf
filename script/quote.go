package script

import (
	"strings"
)

const (
	mark   = '%'
	digits = "0123456789abcdef"
)

// plain tells whether a byte stands in a quote as it is.
func plain(c byte) bool {
	return c >= '!' && c <= '~' && c != mark
}

// Quote is a text without blanks: other bytes as % and two digits, the empty one as % alone.
func Quote(s string) string {
	if s == "" {
		return string(mark)
	}
	var b strings.Builder
	for i := range len(s) {
		if c := s[i]; plain(c) {
			b.WriteByte(c)
		} else {
			b.WriteByte(mark)
			b.WriteByte(digits[c>>4])
			b.WriteByte(digits[c&15])
		}
	}
	return b.String()
}

// Unquote is the text whose quote it is; false: it is none.
func Unquote(q string) (string, bool) {
	if q == string(mark) {
		return "", true
	}
	var b strings.Builder
	for rest := q; rest != ""; {
		c, n := first(rest)
		if n == 0 {
			return "", false
		}
		b.WriteByte(c)
		rest = rest[n:]
	}
	return b.String(), q != ""
}

// first is the byte that a quote begins with, and how many bytes of the quote it takes; 0: that is no quote.
func first(q string) (byte, int) {
	if plain(q[0]) {
		return q[0], 1
	}
	if q[0] != mark || len(q) < 3 {
		return 0, 0
	}
	high, low := strings.IndexByte(digits, q[1]), strings.IndexByte(digits, q[2])
	c := byte(high<<4 | low)
	// A quote has one form, so what stands as it is stands so alone.
	if high < 0 || low < 0 || plain(c) {
		return 0, 0
	}
	return c, 3
}
