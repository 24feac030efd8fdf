package coder_test

import (
	"bytes"
	"encoding/hex"
	"math"
	"math/rand"
	"slices"
	"strings"
	"testing"

	"scholia/api"
	"scholia/coder"
)

func unhex(s string) []byte {
	b, err := hex.DecodeString(s)
	if err != nil {
		panic(err)
	}
	return b
}

// failed tells whether a reader stands as one does behind its first error.
func failed(t *testing.T, what any, r *coder.In, e api.Errno) {
	t.Helper()
	if r.Err() != e || r.End() != e || r.Left() != 0 {
		t.Errorf("%v: error %d, end %d, left %d, not %d", what, r.Err(), r.End(), r.Left(), e)
	}
	if n := r.Num(math.MaxInt); n != 0 {
		t.Errorf("%v: behind an error a number %d", what, n)
	}
	if n := r.Sign(); n != 0 {
		t.Errorf("%v: behind an error a signed number %d", what, n)
	}
	if s := r.Text(math.MaxInt); s != "" {
		t.Errorf("%v: behind an error a text %q", what, s)
	}
	if l := r.Rising(math.MaxInt, math.MaxInt); len(l) != 0 {
		t.Errorf("%v: behind an error numbers %v", what, l)
	}
	r.Num(-1)
	for _, other := range []api.Errno{api.OK, api.EARG, api.EFORM, api.ESHORT, api.ELONG, api.EUTF} {
		r.Fail(other)
	}
	if r.Err() != e || r.End() != e || r.Left() != 0 {
		t.Errorf("%v: the first error %d became %d", what, e, r.Err())
	}
}

// stands tells whether a reader has no error, and so many bytes left.
func stands(t *testing.T, what any, r *coder.In, left int) {
	t.Helper()
	end := api.OK
	if left > 0 {
		end = api.EFORM
	}
	if r.Err() != api.OK || r.Left() != left || r.End() != end {
		t.Errorf("%v: error %d, left %d, end %d; %d should be left", what, r.Err(), r.Left(), r.End(), left)
	}
}

// P1.2, P1.4
func TestReadNum(t *testing.T) {
	for _, c := range numbers {
		r := coder.Read(unhex(c.want))
		if n := r.Num(c.n); n != c.n {
			t.Errorf("%d was read as %d", c.n, n)
		}
		stands(t, c.n, r, 0)

		r = coder.Read(unhex(c.want + "ff00"))
		if n := r.Num(math.MaxInt); n != c.n {
			t.Errorf("%d was read as %d", c.n, n)
		}
		stands(t, c.n, r, 2)

		for _, most := range []int{c.n - 1, -1, math.MinInt} {
			r = coder.Read(unhex(c.want + "00"))
			if n := r.Num(most); n != 0 {
				t.Errorf("%d above %d was read as %d", c.n, most, n)
			}
			failed(t, c.n, r, api.ELONG)
		}
	}
}

// P1.2, P1.4
func TestReadSign(t *testing.T) {
	for _, c := range signed {
		r := coder.Read(unhex(c.want))
		if n := r.Sign(); n != c.n {
			t.Errorf("%d was read as %d", c.n, n)
		}
		stands(t, c.n, r, 0)
		r = coder.Read(unhex(c.want + "ff"))
		if n := r.Sign(); n != c.n {
			t.Errorf("%d was read as %d", c.n, n)
		}
		stands(t, c.n, r, 1)
	}
}

// P1.2: a number's own errors, in whatever it stands.
func TestNumberErrors(t *testing.T) {
	cases := map[string]api.Errno{
		"":                   api.ESHORT,
		"80":                 api.ESHORT,
		"c0":                 api.ESHORT,
		"c000":               api.ESHORT, // too long as well, but cut off first
		"feffffffffffff":     api.ESHORT,
		"ff":                 api.ESHORT,
		"ff00000000000000":   api.ESHORT,
		"8000":               api.EFORM,
		"807f":               api.EFORM,
		"c00000":             api.EFORM,
		"c03fff":             api.EFORM,
		"e01fffff":           api.EFORM,
		"f00fffffff":         api.EFORM,
		"f807ffffffff":       api.EFORM,
		"fc03ffffffffff":     api.EFORM,
		"fe01ffffffffffff":   api.EFORM,
		"ff00ffffffffffffff": api.EFORM,
		"ff0000000000000000": api.EFORM,
	}
	for _, c := range numbers {
		for k := 2; k < len(c.want); k += 2 {
			cases[c.want[:k]] = api.ESHORT
		}
	}
	for s, e := range cases {
		reads := map[string]func(r *coder.In) bool{
			"Num":    func(r *coder.In) bool { return r.Num(math.MaxInt) == 0 },
			"most 0": func(r *coder.In) bool { return r.Num(-1) == 0 },
			"Sign":   func(r *coder.In) bool { return r.Sign() == 0 },
			"Text":   func(r *coder.In) bool { return r.Text(math.MaxInt) == "" },
			"Rising": func(r *coder.In) bool { return len(r.Rising(math.MaxInt, math.MaxInt)) == 0 },
		}
		for name, read := range reads {
			r := coder.Read(unhex(s))
			if !read(r) {
				t.Errorf("%s of %s: not zero", name, s)
			}
			failed(t, name+" of "+s, r, e)
		}
		r := coder.Read(append([]byte{2, 0}, unhex(s)...))
		if l := r.Rising(9, math.MaxInt); len(l) != 0 {
			t.Errorf("of %s came %v", s, l)
		}
		failed(t, "second of Rising "+s, r, e)
	}
}

// P1.2: numbers of 2^63 and more are for Sign alone.
func TestReadBeyond(t *testing.T) {
	for _, s := range []string{"ff8000000000000000", "ff8000000000000001", "ffffffffffffffffff"} {
		r := coder.Read(unhex(s + "00"))
		if n := r.Num(math.MaxInt); n != 0 {
			t.Errorf("%s was read as %d", s, n)
		}
		failed(t, s, r, api.ELONG)
		r = coder.Read(unhex(s + "00"))
		if x := r.Text(math.MaxInt); x != "" {
			t.Errorf("%s: text %q", s, x)
		}
		failed(t, s, r, api.ELONG)
		r = coder.Read(unhex("01" + s))
		if l := r.Rising(1, math.MaxInt); len(l) != 0 {
			t.Errorf("%s: numbers %v", s, l)
		}
		failed(t, s, r, api.ELONG)
	}
}

// P1.2, P1.4
func TestReadText(t *testing.T) {
	for _, s := range []string{"", "a", "\u00e9", "\x00\xff\xc0", strings.Repeat("x", 127), strings.Repeat("y", 300)} {
		for _, most := range []int{len(s), len(s) + 1, math.MaxInt} {
			r := coder.Read(append(coder.Text(nil, s), 1, 2, 3))
			if x := r.Text(most); x != s {
				t.Errorf("%q was read as %q", s, x)
			}
			stands(t, s, r, 3)
		}
		for _, most := range []int{len(s) - 1, -1, math.MinInt} {
			r := coder.Read(coder.Text(nil, s))
			if x := r.Text(most); x != "" {
				t.Errorf("%q: %q", s, x)
			}
			failed(t, s, r, api.ELONG)
		}
		b := coder.Text(nil, s)
		if len(s) > 0 {
			r := coder.Read(b[:len(b)-1])
			if x := r.Text(math.MaxInt); x != "" {
				t.Errorf("%q: %q", s, x)
			}
			failed(t, s, r, api.ESHORT)
		}
	}
	for _, n := range []int{1, 1 << 40, math.MaxInt} {
		r := coder.Read(coder.Num(nil, n))
		if x := r.Text(math.MaxInt); x != "" {
			t.Errorf("%d: %q", n, x)
		}
		failed(t, n, r, api.ESHORT)
	}
	// Too long a text, and too few bytes: its length comes first.
	r := coder.Read([]byte{9, 'a'})
	r.Text(8)
	failed(t, "9 of 8", r, api.ELONG)
}

// P1.2, P1.4
func TestReadRising(t *testing.T) {
	for _, c := range rising {
		want := c.l[:c.most]
		top := -1
		if c.most > 0 {
			top = want[c.most-1]
		}
		for _, x := range []struct{ many, top int }{{c.most, top}, {c.most + 1, top}, {math.MaxInt, math.MaxInt}} {
			r := coder.Read(unhex(c.want + "ff"))
			if l := r.Rising(x.many, x.top); !slices.Equal(l, want) {
				t.Errorf("%v was read as %v", want, l)
			}
			stands(t, want, r, 1)
		}
		for _, x := range []struct{ many, top int }{{c.most - 1, math.MaxInt}, {-1, math.MaxInt}, {math.MinInt, 5}} {
			r := coder.Read(unhex(c.want))
			if l := r.Rising(x.many, x.top); len(l) != 0 {
				t.Errorf("%v of at most %d: %v", want, x.many, l)
			}
			failed(t, want, r, api.ELONG)
		}
		if c.most == 0 {
			continue
		}
		for _, low := range []int{top - 1, -1, -2, math.MinInt, math.MinInt + 1} {
			r := coder.Read(unhex(c.want))
			if l := r.Rising(math.MaxInt, low); len(l) != 0 {
				t.Errorf("%v up to %d: %v", want, low, l)
			}
			failed(t, want, r, api.ELONG)
		}
	}
	for _, top := range []int{-1, -2, math.MinInt} {
		r := coder.Read([]byte{0, 7})
		if l := r.Rising(0, top); len(l) != 0 {
			t.Errorf("up to %d: %v", top, l)
		}
		stands(t, top, r, 1)
	}
}

// P1.2: what ends a list of numbers that rise.
func TestRisingErrors(t *testing.T) {
	full := "02ff7fffffffffffffff00" // behind the greatest number there is none
	for _, c := range []struct {
		s         string
		many, top int
		want      api.Errno
	}{
		{"03030004", 3, 9, api.OK},
		{"03030004", 3, 8, api.ELONG},
		{"03030004", 2, 9, api.ELONG},
		{"030300", 3, 9, api.ESHORT},
		{"0303", 3, 9, api.ESHORT},
		{"03", 3, 9, api.ESHORT},
		{"0303008004", 3, 9, api.EFORM},
		{"03030081", 3, 9, api.ESHORT},
		{"030000", 3, 1, api.ESHORT}, // no room for a third one, but its byte is missing first
		{"03000000", 3, 1, api.ELONG},
		{"020080ff", 2, 9, api.ELONG},
		{"02008005", 2, 1, api.EFORM},
		{"0200ff7fffffffffffffff", 2, math.MaxInt, api.ELONG},
		{"0200ff7ffffffffffffffe", 2, math.MaxInt, api.OK},
		{"0200ff7ffffffffffffffe", 2, math.MaxInt - 1, api.ELONG},
		{full, 2, math.MaxInt, api.ELONG},
		{"ff7fffffffffffffff", math.MaxInt, math.MaxInt, api.ESHORT},
		{"ff7fffffffffffffff000000", math.MaxInt, math.MaxInt, api.ESHORT},
		{"ff7fffffffffffffff000000", math.MaxInt, 1, api.ELONG},
		{"ff7fffffffffffffff0000800000", math.MaxInt, 9, api.EFORM},
	} {
		r := coder.Read(unhex(c.s))
		l := r.Rising(c.many, c.top)
		if c.want == api.OK {
			stands(t, c.s, r, 0)
			continue
		}
		if len(l) != 0 {
			t.Errorf("%s: %v", c.s, l)
		}
		failed(t, c.s, r, c.want)
	}
}

// P1.2
func TestFail(t *testing.T) {
	r := coder.Read([]byte{1, 2, 3})
	r.Fail(api.OK)
	stands(t, "no error", r, 3)
	if n := r.Num(1); n != 1 {
		t.Error(n)
	}
	for e := api.EARG; e <= api.ELINE; e++ {
		r := coder.Read([]byte{1, 2, 3})
		r.Num(9)
		r.Fail(e)
		failed(t, e, r, e)
		r = coder.Read(nil)
		r.Fail(e)
		failed(t, e, r, e)
	}
}

// P1.3
func TestLeftErrEnd(t *testing.T) {
	stands(t, "nil", coder.Read(nil), 0)
	stands(t, "empty", coder.Read([]byte{}), 0)
	r := coder.Read([]byte{5, 0x81, 0x2c, 2, 'a', 'b', 7})
	for _, c := range []struct {
		read func()
		left int
	}{{func() {}, 7}, {func() { r.Num(9) }, 6}, {func() { r.Sign() }, 4}, {func() { r.Text(9) }, 1}, {func() { r.Num(9) }, 0}} {
		c.read()
		stands(t, c.left, r, c.left)
		stands(t, c.left, r, c.left) // to ask is to change nothing
	}
	r.Num(9)
	failed(t, "at the end", r, api.ESHORT)
}

// P1.3: a reader that no call made.
func TestNoReader(t *testing.T) {
	for _, r := range []*coder.In{nil, {}, new(coder.In)} {
		for range 2 {
			if n := r.Num(5); n != 0 {
				t.Error(n)
			}
			if n := r.Num(-1); n != 0 {
				t.Error(n)
			}
			if n := r.Sign(); n != 0 {
				t.Error(n)
			}
			if s := r.Text(5); s != "" {
				t.Error(s)
			}
			if l := r.Rising(5, 5); len(l) != 0 {
				t.Error(l)
			}
			if r.Left() != 0 || r.Err() != api.ENIL || r.End() != api.ENIL {
				t.Error(r.Left(), r.Err(), r.End())
			}
			r.Fail(api.OK)
			r.Fail(api.EARG)
		}
	}
}

// P1.2: a reader keeps nothing of what it was handed, and hands out nothing that it keeps.
func TestReaderMemory(t *testing.T) {
	b, whole := roomy("\x05\x02ab\x02\x00\x01\x02\x00\x01", 8)
	was := bytes.Clone(whole)
	r := coder.Read(b)
	other := coder.Read(b)
	n, s, l := r.Num(9), r.Text(9), r.Rising(9, 9)
	if n != 5 || s != "ab" || !slices.Equal(l, []int{0, 2}) {
		t.Fatal(n, s, l)
	}
	if !bytes.Equal(whole, was) {
		t.Error("reading changed the bytes")
	}
	for i := range whole {
		whole[i] = 0xFF
	}
	if s != "ab" {
		t.Error("a text shares memory with the bytes")
	}
	l = l[:cap(l)]
	for i := range l {
		l[i] = 77
	}
	if m := r.Rising(9, 9); !slices.Equal(m, []int{0, 2}) {
		t.Error("the reader kept the bytes", m)
	}
	stands(t, "the first", r, 0)
	if x := other.Num(9); x != 5 {
		t.Error("two readers know of one another", x)
	}
	stands(t, "the other", other, len(b)-1)
}

// P1.4: whatever was written behind one another is read, and nothing behind it.
func TestBack(t *testing.T) {
	rnd := rand.New(rand.NewSource(1))
	some := func() int { return int(rnd.Uint64() >> rnd.Intn(64)) }
	for range 300 {
		var b []byte
		var checks []func(r *coder.In) bool
		for range rnd.Intn(12) {
			n := some()
			s := strings.Repeat("z", rnd.Intn(200))
			var l []int
			for last := -1; len(l) < 9; {
				step := rnd.Intn(1<<rnd.Intn(40)) + 1
				last += step
				l = append(l, last)
			}
			b = coder.Rising(coder.Text(coder.Sign(coder.Num(b, n), n), s), l)
			checks = append(checks, func(r *coder.In) bool {
				return r.Num(math.MaxInt) == max(n, 0) && r.Sign() == n && r.Text(len(s)) == s && slices.Equal(r.Rising(9, math.MaxInt), l)
			})
		}
		r := coder.Read(append(b, 0xFF, 0xFF))
		for _, check := range checks {
			if !check(r) {
				t.Fatal("what was written was not read")
			}
		}
		stands(t, "all", r, 2)
	}
}
