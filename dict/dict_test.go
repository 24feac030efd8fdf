package dict_test

import (
	"math"
	"math/rand"
	"slices"
	"strings"
	"testing"

	"scholia/api"
	"scholia/dict"
)

// P18.1
func TestBuild(t *testing.T) {
	long := strings.Repeat("x", 64)
	for _, c := range []struct {
		words []string
		want  api.Errno
	}{
		{nil, api.OK},
		{[]string{}, api.OK},
		{[]string{"fox"}, api.OK},
		{[]string{"\x00"}, api.OK},
		{[]string{"fox", "foxes", "run"}, api.OK},
		{[]string{"a", "a\x00", "aa", "b", "\xff", "\xff\x00"}, api.OK},
		{[]string{"Z", "a", "é", "€"}, api.OK},
		{[]string{long}, api.OK},
		{[]string{"a", long, "y"}, api.OK},
		{numbered(16384), api.OK},
		{[]string{""}, api.EARG},
		{[]string{"", "a"}, api.EARG},
		{[]string{"a", ""}, api.EARG},
		{[]string{"a", "a"}, api.EARG},
		{[]string{"b", "a"}, api.EARG},
		{[]string{"a", "c", "b"}, api.EARG},
		{[]string{"foxes", "fox"}, api.EARG},
		{[]string{"a\x00", "a"}, api.EARG},
		{[]string{"\xff", "a"}, api.EARG},
		{[]string{"é", "z"}, api.EARG},
		{[]string{long + "x"}, api.EARG},
		{[]string{"a", long + "x"}, api.EARG},
		{[]string{strings.Repeat("x", 1<<20)}, api.EARG},
		{append(numbered(16383), "a"), api.EARG},
		{numbered(16385), api.ELONG},
		{make([]string, 16385), api.ELONG},
		{make([]string, 16384), api.EARG},
	} {
		d, e := dict.Build(c.words)
		if e != c.want || (d == nil) != (e != api.OK) {
			t.Fatalf("%d words from %q on: error %d, not %d", len(c.words), c.words[:min(3, len(c.words))], e, c.want)
		}
		if e == api.OK && (d.Len() != len(c.words) || !slices.Equal(d.Words(), c.words)) {
			t.Fatalf("%q: %q", c.words, d.Words())
		}
	}
}

// P18.1
func TestAt(t *testing.T) {
	words := []string{"fox", "foxes", "run"}
	d := build(t, words)
	for i, w := range words {
		if got, ok := d.At(i); got != w || !ok {
			t.Error(i, got, ok)
		}
	}
	for _, i := range []int{-1, 3, 4, 1 << 32, math.MaxInt, math.MinInt} {
		if got, ok := d.At(i); got != "" || ok {
			t.Error(i, got, ok)
		}
	}
	if got, ok := build(t, nil).At(0); got != "" || ok {
		t.Error(got, ok)
	}
}

// P18.1: by counting, word for word.
func TestSeekRange(t *testing.T) {
	rnd := rand.New(rand.NewSource(181))
	for range 400 {
		words := someWords(rnd, 30)
		d := build(t, words)
		asked := append(someWords(rnd, 20), "", "a", "ab", "\x00", "\xff", "\xff\xff\xff\xff\xff\xff\xff\xff", strings.Repeat("a", 70))
		for _, w := range append(asked, words...) {
			below, begin := 0, 0
			for _, x := range words {
				if x < w {
					below++
				}
				if strings.HasPrefix(x, w) {
					begin++
				}
			}
			if n, ok := d.Seek(w); n != below || ok != slices.Contains(words, w) {
				t.Fatalf("%q in %q: %d %v", w, words, n, ok)
			}
			if from, upto := d.Range(w); from != below || upto != below+begin {
				t.Fatalf("%q in %q: from %d up to %d", w, words, from, upto)
			}
		}
	}
}

// P18.1: beginnings, one by one.
func TestRange(t *testing.T) {
	d := build(t, []string{"fo", "fox", "fox\x00", "foxes", "foy", "run"})
	for _, c := range []struct {
		prefix     string
		from, upto int
	}{
		{"", 0, 6}, {"f", 0, 5}, {"fo", 0, 5}, {"fox", 1, 4}, {"foxe", 3, 4}, {"foxes", 3, 4}, {"foxest", 4, 4},
		{"a", 0, 0}, {"fp", 5, 5}, {"run", 5, 6}, {"runs", 6, 6}, {"z", 6, 6}, {"\xff", 6, 6}, {"fox\x00", 2, 3}, {"FOX", 0, 0},
	} {
		if from, upto := d.Range(c.prefix); from != c.from || upto != c.upto {
			t.Errorf("%q: from %d up to %d", c.prefix, from, upto)
		}
	}
	if from, upto := build(t, nil).Range(""); from != 0 || upto != 0 {
		t.Error(from, upto)
	}
}

// P18.1: dictionaries that no call made.
func TestNone(t *testing.T) {
	for _, d := range []*dict.Dict{nil, new(dict.Dict), {}} {
		w, ok := d.At(0)
		n, there := d.Seek("fox")
		from, upto := d.Range("")
		if d.Len() != 0 || w != "" || ok || n != 0 || there || from != 0 || upto != 0 || d.Words() != nil || d.Bytes() != nil {
			t.Error(d.Len(), w, ok, n, there, from, upto, d.Words(), d.Bytes())
		}
	}
}

// P18.1: what is handed in and out is not the dictionary's.
func TestMemory(t *testing.T) {
	words := []string{"fox", "foxes", "run", "sun"}
	d := build(t, words[:3])
	if words[3] != "sun" {
		t.Error(words)
	}
	words[0] = "spoilt"
	got := d.Words()
	for i := range got[:cap(got)] {
		got[:cap(got)][i] = "spoilt"
	}
	b := d.Bytes()
	for i := range b[:cap(b)] {
		b[:cap(b)][i] = 0x77
	}
	if l := d.Words(); !slices.Equal(l, []string{"fox", "foxes", "run"}) || string(d.Bytes()) != "\x03\x00\x03fox\x03\x02es\x00\x03run" {
		t.Errorf("%q %x", l, d.Bytes())
	}
	one, other := build(t, []string{"a"}), build(t, []string{"b"})
	if w, _ := one.At(0); w != "a" || other.Len() != 1 {
		t.Error(w)
	}
}
