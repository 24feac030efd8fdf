package coder_test

import (
	"bytes"
	"encoding/hex"
	"math"
	"slices"
	"strings"
	"testing"

	"scholia/coder"
)

// numbers: each length's least and greatest number, and their bytes.
var numbers = []struct {
	n    int
	want string
}{
	{0, "00"},
	{1, "01"},
	{127, "7f"},
	{128, "8080"},
	{300, "812c"},
	{1<<14 - 1, "bfff"},
	{1 << 14, "c04000"},
	{1<<21 - 1, "dfffff"},
	{1 << 21, "e0200000"},
	{1<<28 - 1, "efffffff"},
	{1 << 28, "f010000000"},
	{1<<35 - 1, "f7ffffffff"},
	{1 << 35, "f80800000000"},
	{1<<42 - 1, "fbffffffffff"},
	{1 << 42, "fc040000000000"},
	{1<<49 - 1, "fdffffffffffff"},
	{1 << 49, "fe02000000000000"},
	{1<<56 - 1, "feffffffffffffff"},
	{1 << 56, "ff0100000000000000"},
	{0x0123456789abcdef, "ff0123456789abcdef"},
	{math.MaxInt, "ff7fffffffffffffff"},
}

// signed: numbers of either sign, and their bytes.
var signed = []struct {
	n    int
	want string
}{
	{0, "00"},
	{-1, "01"},
	{1, "02"},
	{-2, "03"},
	{63, "7e"},
	{-64, "7f"},
	{64, "8080"},
	{-65, "8081"},
	{1 << 62, "ff8000000000000000"},
	{-1<<62 - 1, "ff8000000000000001"},
	{math.MaxInt, "fffffffffffffffffe"},
	{math.MinInt, "ffffffffffffffffff"},
}

// rising: lists, and the bytes of their longest beginnings that rise.
var rising = []struct {
	l    []int
	most int // how many of the list are written
	want string
}{
	{nil, 0, "00"},
	{[]int{}, 0, "00"},
	{[]int{0}, 1, "0100"},
	{[]int{3, 4, 9}, 3, "03030004"},
	{[]int{3, 4, 9, 9, 10}, 3, "03030004"},
	{[]int{3, 4, 9, 8, 10}, 3, "03030004"},
	{[]int{3, 4, -9, 5}, 2, "020300"},
	{[]int{5, 5}, 1, "0105"},
	{[]int{-1, 2, 3}, 0, "00"},
	{[]int{math.MinInt, 7}, 0, "00"},
	{[]int{7, math.MinInt}, 1, "0107"},
	{[]int{0, 300}, 2, "0200812b"},
	{[]int{math.MaxInt}, 1, "01ff7fffffffffffffff"},
	{[]int{0, math.MaxInt}, 2, "0200ff7ffffffffffffffe"},
	{[]int{math.MaxInt, 0}, 1, "01ff7fffffffffffffff"},
	{[]int{math.MaxInt, math.MinInt, math.MaxInt}, 1, "01ff7fffffffffffffff"},
}

func same(t *testing.T, what any, got []byte, want string) {
	t.Helper()
	if hex.EncodeToString(got) != want {
		t.Errorf("%v: %x, not %s", what, got, want)
	}
}

// P1.1
func TestNum(t *testing.T) {
	for _, c := range numbers {
		same(t, c.n, coder.Num(nil, c.n), c.want)
		same(t, c.n, coder.Num([]byte{}, c.n), c.want)
		same(t, c.n, coder.Num([]byte{9, 255}, c.n), "09ff"+c.want)
	}
	for _, n := range []int{-1, -300, math.MinInt, math.MinInt + 1} {
		same(t, n, coder.Num(nil, n), "00")
		same(t, n, coder.Num([]byte{7}, n), "0700")
	}
}

// P1.1
func TestSign(t *testing.T) {
	for _, c := range signed {
		same(t, c.n, coder.Sign(nil, c.n), c.want)
		same(t, c.n, coder.Sign([]byte{9, 255}, c.n), "09ff"+c.want)
	}
}

// P1.1
func TestText(t *testing.T) {
	long := strings.Repeat("x", 128)
	for _, c := range []struct{ s, want string }{
		{"", "00"},
		{"a", "0161"},
		{"\u00e9", "02c3a9"},
		{"\x00\xff", "0200ff"},
		{long[:127], "7f" + hex.EncodeToString([]byte(long[:127]))},
		{long, "8080" + hex.EncodeToString([]byte(long))},
	} {
		same(t, c.s, coder.Text(nil, c.s), c.want)
		same(t, c.s, coder.Text([]byte{9}, c.s), "09"+c.want)
	}
}

// P1.1
func TestRising(t *testing.T) {
	for _, c := range rising {
		l := slices.Clone(c.l)
		same(t, c.l, coder.Rising(nil, l), c.want)
		same(t, c.l, coder.Rising([]byte{9}, l), "09"+c.want)
		if !slices.Equal(l, c.l) {
			t.Errorf("%v was changed", c.l)
		}
	}
}

// roomy is a list with room behind its end, and all of its memory.
func roomy(s string, room int) (b, whole []byte) {
	whole = append([]byte(s), bytes.Repeat([]byte{0xAA}, room)...)
	return whole[:len(s)], whole
}

// fill spoils an answer, and the room behind its end.
func fill(b []byte) {
	b = b[:cap(b)]
	for i := range b {
		b[i] = 0x55
	}
}

// P1.1: all in new memory.
func TestNewMemory(t *testing.T) {
	writers := map[string]func(b []byte, n int) []byte{
		"Num":         coder.Num,
		"Sign":        coder.Sign,
		"Text":        func(b []byte, n int) []byte { return coder.Text(b, strings.Repeat("x", n)) },
		"no Text":     func(b []byte, n int) []byte { return coder.Text(b, "") },
		"Rising":      func(b []byte, n int) []byte { return coder.Rising(b, []int{n, n + 3}) },
		"none Rising": func(b []byte, n int) []byte { return coder.Rising(b, nil) },
	}
	for name, write := range writers {
		for _, s := range []string{"", "x", "some bytes"} {
			for _, room := range []int{0, 1, 2, 3, 64} {
				b, whole := roomy(s, room)
				was := bytes.Clone(whole)
				one := write(b, 5)
				two := write(b, 40)
				if !bytes.Equal(one, write([]byte(s), 5)) {
					t.Errorf("%s: an answer was changed by the next one", name)
				}
				fill(one)
				if !bytes.Equal(two, write([]byte(s), 40)) {
					t.Errorf("%s: two answers share memory", name)
				}
				fill(two)
				if !bytes.Equal(whole, was) {
					t.Errorf("%s: the argument, or the room behind it, was changed", name)
				}
			}
		}
	}
}

// P1.5
func TestOrder(t *testing.T) {
	var l []int
	for k := range 63 {
		for d := -2; d <= 2; d++ {
			l = append(l, max(1<<k+d, 0))
		}
	}
	l = append(l, math.MaxInt, math.MaxInt-1, 0x0123456789abcdef, 1000003)
	slices.Sort(l)
	l = slices.Compact(l)
	for i, a := range l {
		for j, b := range l {
			if c := bytes.Compare(coder.Num(nil, a), coder.Num(nil, b)); (c < 0) != (i < j) || (c == 0) != (i == j) {
				t.Fatalf("%d and %d: %d", a, b, c)
			}
		}
	}
}
