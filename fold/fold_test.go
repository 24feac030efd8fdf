package fold_test

import (
	"math"
	"strings"
	"testing"

	"scholia/fold"
	"scholia/utf"
)

// smalls is the small letter of each great one, as the document lists them.
func smalls() map[int]int {
	m := map[int]int{}
	add := func(from, to, step, up int) {
		for r := from; r <= to; r += step {
			m[r] = r + up
		}
	}
	add(0x41, 0x5A, 1, 32)
	add(0xC0, 0xD6, 1, 32)
	add(0xD8, 0xDE, 1, 32)
	add(0x391, 0x3A1, 1, 32)
	add(0x3A3, 0x3A9, 1, 32)
	add(0x410, 0x42F, 1, 32)
	add(0x400, 0x40F, 1, 80)
	add(0x100, 0x12E, 2, 1)
	add(0x132, 0x136, 2, 1)
	add(0x14A, 0x176, 2, 1)
	add(0x460, 0x480, 2, 1)
	add(0x139, 0x147, 2, 1)
	add(0x179, 0x17D, 2, 1)
	return m
}

// far: numbers that are no sign's, those whose lowest bits are a letter's among them.
var far = []int{-1, -32, -0x41, 0x110000, 1<<31 - 1, 1 << 31, 1<<32 + 0x41, 1<<32 + 0x30, 1<<32 + 0x100, -1<<32 + 0x41, 1<<16 + 1<<32 + 0x61, math.MaxInt, math.MinInt, math.MinInt + 0x41, math.MinInt + 0x30}

// P4.1
func TestLower(t *testing.T) {
	m := smalls()
	for r := -0x600; r < 0x110100; r++ {
		want, great := m[r]
		if !great {
			want = r
		}
		if got := fold.Lower(r); got != want {
			t.Fatalf("%x: %x, not %x", r, got, want)
		}
	}
	for _, r := range far {
		if got := fold.Lower(r); got != r {
			t.Errorf("%x: %x", r, got)
		}
	}
	for r, want := range map[int]int{'A': 'a', 'Z': 'z', '@': '@', '[': '[', 0xC9: 0xE9, 0xD7: 0xD7, 0xDF: 0xDF, 0x130: 0x130, 0x131: 0x131, 0x12E: 0x12F, 0x138: 0x138, 0x148: 0x148, 0x178: 0x178, 0x3A2: 0x3A2, 0x401: 0x451, 0x416: 0x436, 0x480: 0x481, 0x482: 0x482} {
		if got := fold.Lower(r); got != want {
			t.Errorf("%x: %x, not %x", r, got, want)
		}
	}
}

// P4.2
func TestKinds(t *testing.T) {
	check := func(r int, digit, letter bool) {
		if fold.Digit(r) != digit || fold.Letter(r) != letter || fold.Word(r) != (digit || letter) {
			t.Fatalf("%x: %v %v %v", r, fold.Digit(r), fold.Letter(r), fold.Word(r))
		}
	}
	for r := -0x600; r < 0x110100; r++ {
		digit := r >= 0x30 && r <= 0x39
		letter := r >= 0x41 && r <= 0x5A || r >= 0x61 && r <= 0x7A || r >= 0xC0 && r <= 0x24F || r >= 0x370 && r <= 0x52F
		if r == 0xD7 || r == 0xF7 || r == 0x37E || r == 0x387 {
			letter = false
		}
		check(r, digit, letter)
	}
	for _, r := range far {
		check(r, false, false)
	}
}

// P4.3
func TestText(t *testing.T) {
	for s, want := range map[string]string{
		"":                         "",
		"\u00c9A1":                 "\u00e9a1",
		"Red, red FOX!":            "red, red fox!",
		"\u0416\u03a9\u0401":       "\u0436\u03c9\u0451",
		"\u0130\u0178\u1e00\u20ac": "\u0130\u0178\u1e00\u20ac", // great ones, but not of the document's
		"\U0001f600A":              "\U0001f600a",
		"A\xffB":                   "a\xffb",
		"\xc3A":                    "\xc3a",
		"\xc3":                     "\xc3",
		"\x89\xc3\x89\x89":         "\x89\xc3\xa9\x89",
		"\xe2\x82\u00c9":           "\xe2\x82\u00e9",
		"\xc1\x81":                 "\xc1\x81", // an A that is longer than it need be
		"\xe0\x83\x89":             "\xe0\x83\x89",
		"\xed\xa0\x80A":            "\xed\xa0\x80a",
		"\xf4\x90\x80\x80Z":        "\xf4\x90\x80\x80z",
		"\x00A\x00":                "\x00a\x00",
		"\ufffdA":                  "\ufffda",
	} {
		if got := fold.Text(s); got != want {
			t.Errorf("%x: %x, not %x", s, got, want)
		}
	}
}

// P4.3: sign by sign as Lower has it.
func TestTextAll(t *testing.T) {
	for r := range 0x110000 {
		s := string(utf.Put(nil, r))
		want := ""
		if s != "" {
			want = string(utf.Put(nil, fold.Lower(r)))
		}
		if got := fold.Text(s); got != want {
			t.Fatalf("%x: %x", r, got)
		}
	}
}

// P4.4
func TestOnce(t *testing.T) {
	for r := -0x100; r < 0x110100; r++ {
		small := fold.Lower(r)
		if fold.Lower(small) != small || utf.Sign(small) != utf.Sign(r) || fold.Letter(small) != fold.Letter(r) || fold.Digit(small) != fold.Digit(r) {
			t.Fatalf("%x: %x", r, small)
		}
	}
	parts := []string{"", "A", "z", "9", "\u00c9", "\u00e9", "\u0130", "\u0416", "\u20ac", "\U0001f600", "\xff", "\x80", "\xc3", "\xe2\x82", "\xf0\x9f\x98", "\xed\xa0\x80", "\xc1\x81"}
	for _, a := range parts {
		for _, b := range parts {
			for _, c := range parts {
				s := a + b + c
				small := fold.Text(s)
				if fold.Text(small) != small || utf.Valid(small) != utf.Valid(s) || utf.Count(small) != utf.Count(s) {
					t.Fatalf("%x: %x", s, small)
				}
			}
		}
	}
}

// Long texts are gone through once.
func TestLong(t *testing.T) {
	if got := fold.Text(strings.Repeat("A\u00c9\xff", 300000)); got != strings.Repeat("a\u00e9\xff", 300000) {
		t.Error("of a long text")
	}
}
