package utf_test

import (
	"bytes"
	"math"
	"strings"
	"testing"
	"unicode/utf8"

	"scholia/utf"
)

// noSigns: numbers that are no sign's, those whose lowest bits are one's among them.
var noSigns = []int{-1, -2, -65, 0xD800, 0xDABC, 0xDFFF, 0x110000, 0x110001, 1 << 21, 1<<31 - 1, 1 << 31, 1<<32 + 'a', 1<<32 - 1, -1<<32 + 'a', math.MaxInt, math.MinInt, math.MinInt + 'a'}

// broken: bytes that are no sign's from their first one on.
var broken = []string{
	"\x80", "\xbf", "\x80\x80", // none that leads
	"\xc0\x80", "\xc1\xbf", "\xe0\x80\x80", "\xe0\x9f\xbf", "\xf0\x80\x80\x80", "\xf0\x8f\xbf\xbf", // longer than they need be
	"\xed\xa0\x80", "\xed\xbf\xbf", // halves of pairs
	"\xf4\x90\x80\x80", "\xf5\x80\x80\x80", "\xf7\xbf\xbf\xbf", // above the last one
	"\xf8\x88\x80\x80\x80", "\xfc\x84\x80\x80\x80\x80", "\xfe\x80\x80\x80", "\xff\xbf\xbf\xbf", "\xff",
	"\xc3", "\xe2", "\xe2\x82", "\xf0", "\xf0\x9f", "\xf0\x9f\x98", // cut off
	"\xc3a", "\xc3\xc3", "\xe2\x82a", "\xe2a\x82", "\xe2\x82\xc2", "\xf0\x9f\x98a", "\xf0\x9fa\x80", "\xf0a\x98\x80", "\xc3\x29", "\xc3\x7f", "\xc3\xe9",
}

// P3.1
func TestSign(t *testing.T) {
	for r := -0x100; r < 0x120000; r++ {
		want := r >= 0 && r <= 0x10FFFF && (r < 0xD800 || r > 0xDFFF)
		if utf.Sign(r) != want {
			t.Fatalf("%x: %v", r, !want)
		}
	}
	for _, r := range noSigns {
		if utf.Sign(r) {
			t.Errorf("%x is a sign", r)
		}
	}
}

// P3.1
func TestPut(t *testing.T) {
	for _, c := range []struct {
		r    int
		want string
	}{
		{0, "\x00"}, {'a', "a"}, {0x7F, "\x7f"},
		{0x80, "\xc2\x80"}, {0xE9, "\xc3\xa9"}, {0x7FF, "\xdf\xbf"},
		{0x800, "\xe0\xa0\x80"}, {0xD7FF, "\xed\x9f\xbf"}, {0xE000, "\xee\x80\x80"}, {0xFFFD, "\xef\xbf\xbd"}, {0xFFFF, "\xef\xbf\xbf"},
		{0x10000, "\xf0\x90\x80\x80"}, {0x1F600, "\xf0\x9f\x98\x80"}, {0x10FFFF, "\xf4\x8f\xbf\xbf"},
	} {
		for _, b := range []string{"", "x", "\xff\x80"} {
			if got := utf.Put([]byte(b), c.r); string(got) != b+c.want {
				t.Errorf("%x: %x", c.r, got)
			}
		}
		if got := utf.Put(nil, c.r); string(got) != c.want {
			t.Errorf("%x: %x", c.r, got)
		}
	}
	for _, r := range noSigns {
		if got := utf.Put([]byte("ab"), r); string(got) != "ab" {
			t.Errorf("%x: %x", r, got)
		}
		if got := utf.Put(nil, r); len(got) != 0 {
			t.Errorf("%x: %x", r, got)
		}
	}
}

// fill spoils an answer, and the room behind its end.
func fill(b []byte) {
	b = b[:cap(b)]
	for i := range b {
		b[i] = 0x55
	}
}

// P3.1: in new memory, also where nothing is put.
func TestPutMemory(t *testing.T) {
	for _, r := range []int{'a', 0xE9, 0x20AC, 0x1F600, -1, 0xD800} {
		for _, s := range []string{"", "x", "some bytes"} {
			for _, room := range []int{0, 1, 4, 64} {
				whole := append([]byte(s), bytes.Repeat([]byte{0xAA}, room)...)
				was := bytes.Clone(whole)
				one, two := utf.Put(whole[:len(s)], r), utf.Put(whole[:len(s)], r)
				fill(one)
				if !bytes.Equal(two, utf.Put([]byte(s), r)) {
					t.Errorf("%x: two answers share memory", r)
				}
				fill(two)
				if !bytes.Equal(whole, was) {
					t.Errorf("%x: the argument, or the room behind it, was changed", r)
				}
			}
		}
	}
}

// P3.2, P3.4
func TestNext(t *testing.T) {
	for r := range 0x110000 {
		if !utf.Sign(r) {
			continue
		}
		s := string(utf.Put(nil, r))
		if s != string(rune(r)) {
			t.Fatalf("%x: %x", r, s)
		}
		if got, n := utf.Next(s, 0); got != r || n != len(s) {
			t.Fatalf("%x: %x %d", r, got, n)
		}
		if got, n := utf.Next("\xe2"+s+"\x80a", 1); got != r || n != len(s) {
			t.Fatalf("%x: %x %d", r, got, n)
		}
		for at := 1; at < len(s); at++ { // within it none begins, and cut off it is none
			if got, n := utf.Next(s, at); got != -1 || n != 1 {
				t.Fatalf("%x at %d: %x %d", r, at, got, n)
			}
			if got, n := utf.Next(s[:at], 0); got != -1 || n != 1 {
				t.Fatalf("%x cut to %d: %x %d", r, at, got, n)
			}
		}
	}
	for _, s := range broken {
		if got, n := utf.Next(s, 0); got != -1 || n != 1 {
			t.Errorf("%x: %x %d", s, got, n)
		}
	}
}

// P3.2: no such place.
func TestNextNoPlace(t *testing.T) {
	for _, s := range []string{"", "a", "a\u00e9", "\xff"} {
		for _, at := range []int{len(s), len(s) + 1, -1, -len(s) - 1, math.MaxInt, math.MinInt, 1 << 32, -1 << 32} {
			if r, n := utf.Next(s, at); r != -1 || n != 0 {
				t.Errorf("%q at %d: %x %d", s, at, r, n)
			}
		}
	}
}

// P3.2: all beginnings of bytes, held against the library's.
func TestNextAll(t *testing.T) {
	edges := []byte{0x00, 0x41, 0x7F, 0x80, 0x8F, 0x90, 0x9F, 0xA0, 0xBF, 0xC0, 0xC2, 0xFF}
	for a := range 256 {
		for b := range 256 {
			for _, c := range edges {
				for _, d := range edges {
					s := string([]byte{byte(a), byte(b), c, d})
					want, size := utf8.DecodeRuneInString(s)
					r := int(want)
					if want == utf8.RuneError && size == 1 {
						r = -1
					}
					if got, n := utf.Next(s, 0); got != r || n != size {
						t.Fatalf("%x: %x %d, not %x %d", s, got, n, r, size)
					}
				}
			}
		}
	}
}

// mixed: texts, some of them with bytes that are no sign's.
func mixed() []string {
	l := []string{"", "a", "abc", "a\u00e9\u20ac\U0001f600", "\U0001f600\u20ac\u00e9a", "\ufffd", "a\xffb", "\u00e9\xe2\x82\u00e9", "\xe2\x82\xac\x80", "\xf0\x9f\x98\xf0\x9f\x98\x80"}
	for _, s := range broken {
		l = append(l, s, "a"+s, s+"a", "\u20ac"+s+"\u20ac", s+s)
	}
	return l
}

// P3.3
func TestValid(t *testing.T) {
	for _, s := range mixed() {
		if got := utf.Valid(s); got != utf8.ValidString(s) {
			t.Errorf("%x: %v", s, got)
		}
	}
	for _, s := range broken {
		if utf.Valid(s) || utf.Valid("abc"+s) || utf.Valid(s+"abc") {
			t.Errorf("%x", s)
		}
	}
	if !utf.Valid("") || !utf.Valid("\x00") || !utf.Valid("\ufffd") {
		t.Error("what is UTF-8 is refused")
	}
}

// P3.3
func TestCount(t *testing.T) {
	for s, want := range map[string]int{
		"": 0, "a": 1, "a\u00e9\u20ac\U0001f600": 4, "\xe2\x82": 2, "\xf0\x9f\x98": 3, "\xe2\x82a": 3, "\xed\xa0\x80": 3, "\xc0\x80": 2, "\xf4\x90\x80\x80": 4, "\u00e9\x80": 2, "\ufffd\x00": 2,
	} {
		if got := utf.Count(s); got != want {
			t.Errorf("%x: %d, not %d", s, got, want)
		}
	}
	for _, s := range mixed() {
		if got := utf.Count(s); got != utf8.RuneCountInString(s) {
			t.Errorf("%x: %d", s, got)
		}
	}
}

// P3.3
func TestCut(t *testing.T) {
	for _, c := range []struct {
		s    string
		most int
		want string
	}{
		{"a\u00e9\u20ac", 0, ""}, {"a\u00e9\u20ac", 1, "a"}, {"a\u00e9\u20ac", 2, "a"}, {"a\u00e9\u20ac", 3, "a\u00e9"}, {"a\u00e9\u20ac", 5, "a\u00e9"}, {"a\u00e9\u20ac", 6, "a\u00e9\u20ac"}, {"a\u00e9\u20ac", 7, "a\u00e9\u20ac"},
		{"a", -1, ""}, {"a", math.MinInt, ""}, {"a\u00e9", math.MaxInt, "a\u00e9"}, {"", -1, ""}, {"", 0, ""}, {"", 5, ""}, {"", math.MinInt, ""},
		{"\xe2\x82a", 1, "\xe2"}, {"\xe2\x82a", 2, "\xe2\x82"}, {"\xe2\x82\xac", 2, ""}, {"\xe2\x82\xac\x82", 3, "\xe2\x82\xac"}, {"\xed\xa0\x80", 2, "\xed\xa0"}, {"\u00e9\x80\x80", 3, "\u00e9\x80"},
	} {
		if got := utf.Cut(c.s, c.most); got != c.want {
			t.Errorf("%x of at most %d: %x, not %x", c.s, c.most, got, c.want)
		}
	}
}

// P3.3, P3.5: the longest one behind which a step ends, held against all steps.
func TestCutSteps(t *testing.T) {
	for _, s := range mixed() {
		ends := map[int]bool{0: true}
		for at := 0; at < len(s); {
			_, n := utf.Next(s, at)
			at += n
			ends[at] = true
		}
		for most := -2; most < len(s)+3; most++ {
			want := max(min(most, len(s)), 0)
			for !ends[want] {
				want--
			}
			got := utf.Cut(s, most)
			if got != s[:want] {
				t.Errorf("%x of at most %d: %x", s, most, got)
			}
			if utf.Valid(s) && !utf.Valid(got) {
				t.Errorf("%x of at most %d is no UTF-8: %x", s, most, got)
			}
		}
	}
}

// P3.4: signs that were put behind one another are found, one by one.
func TestBack(t *testing.T) {
	signs := []int{0, 'a', 0x7F, 0x80, 0x7FF, 0x800, 0xD7FF, 0xE000, 0xFFFD, 0xFFFF, 0x10000, 0x10FFFF}
	for _, a := range signs {
		for _, b := range signs {
			one := utf.Put(nil, a)
			s := string(utf.Put(one, b))
			ra, na := utf.Next(s, 0)
			rb, nb := utf.Next(s, na)
			if ra != a || na != len(one) || rb != b || na+nb != len(s) || !utf.Valid(s) || utf.Count(s) != 2 {
				t.Errorf("%x %x: %x", a, b, s)
			}
		}
	}
}

// Long texts are gone through once.
func TestLong(t *testing.T) {
	s := strings.Repeat("a\u00e9\u20ac\U0001f600\xff", 100000)
	if utf.Count(s) != 500000 || utf.Valid(s) || len(utf.Cut(s, len(s)-2)) != len(s)-5 {
		t.Error("of a long text")
	}
}
