package bits_test

import (
	"bytes"
	"encoding/hex"
	"math/rand"
	"slices"
	"testing"

	"scholia/api"
	"scholia/bits"
	"scholia/coder"
)

func unhex(s string) []byte {
	b, err := hex.DecodeString(s)
	if err != nil {
		panic(err)
	}
	return b
}

// written: sets, and their bytes.
var written = []struct {
	size int
	l    []int
	want string
}{
	{0, nil, "0000"},
	{1, nil, "0100"},
	{1, []int{0}, "010100"},
	{70, []int{3, 68}, "46020340"},
	{5, []int{0, 1, 2, 3, 4}, "05050000000000"},
	{300, []int{299}, "812c01812b"},
	{300, []int{0, 299}, "812c0200812a"},
	{65536, nil, "c1000000"},
	{65536, []int{65535}, "c1000001c0ffff"},
}

// P5.2, P5.3
func TestBytes(t *testing.T) {
	for _, c := range written {
		s := made(t, c.size, c.l...)
		for range 2 {
			if got := hex.EncodeToString(s.Bytes()); got != c.want {
				t.Errorf("%d %v: %s, not %s", c.size, c.l, got, c.want)
			}
		}
		r := coder.Read(append(unhex(c.want), 7, 7))
		holds(t, c.want, bits.Read(r), c.size, c.l...)
		if r.Err() != api.OK || r.Left() != 2 {
			t.Errorf("%s: error %d, left %d", c.want, r.Err(), r.Left())
		}
	}
}

// P5.3
func TestBack(t *testing.T) {
	rnd := rand.New(rand.NewSource(7))
	for range 300 {
		size := rnd.Intn(1 << rnd.Intn(17))
		s := bits.New(size)
		for range rnd.Intn(200) {
			s.Put(rnd.Intn(size + 1))
		}
		r := coder.Read(s.Bytes())
		back := bits.Read(r)
		if r.End() != api.OK || back.Size() != size || !slices.Equal(back.List(), s.List()) || !bytes.Equal(back.Bytes(), s.Bytes()) {
			t.Fatalf("%v of %d was read as %v of %d, error %d", s.List(), size, back.List(), back.Size(), r.End())
		}
	}
}

// P5.2: bytes that are no set's.
func TestReadErrors(t *testing.T) {
	cases := map[string]api.Errno{
		"":                     api.ESHORT,
		"46":                   api.ESHORT,
		"4602":                 api.ESHORT,
		"460203":               api.ESHORT,
		"460203c0":             api.ESHORT,
		"00":                   api.ESHORT,
		"000100":               api.ELONG, // more than as many as the size
		"010200":               api.ELONG,
		"0102":                 api.ELONG,
		"010101":               api.ELONG, // the size itself is not in
		"46020342":             api.ELONG,
		"460146":               api.ELONG,
		"c1000100":             api.ELONG, // 65537
		"c1000101":             api.ELONG,
		"ff7fffffffffffffff00": api.ELONG,
		"ff800000000000000000": api.ELONG,
		"ffffffffffffffffff00": api.ELONG,
		"c1000001c10000":       api.ELONG, // 65536 of 65536
		"05ff7fffffffffffffff": api.ELONG,
		"0501ffffffffffffffff": api.ESHORT,
		"8046020340":           api.EFORM,
		"4680020340":           api.EFORM,
		"4602800340":           api.EFORM,
		"4602038040":           api.EFORM,
		"ff0000000000000046":   api.EFORM,
	}
	for s, e := range cases {
		r := coder.Read(unhex(s))
		got := bits.Read(r)
		holds(t, s, got, 0)
		if r.Err() != e || r.Left() != 0 {
			t.Errorf("%s: error %d, left %d; not %d", s, r.Err(), r.Left(), e)
		}
		if got.Put(0) {
			t.Errorf("%s: a set with an error has room", s)
		}
	}
	for _, c := range written {
		b := unhex(c.want)
		for k := range b {
			r := coder.Read(b[:k])
			holds(t, b[:k], bits.Read(r), 0)
			if r.Err() != api.ESHORT {
				t.Errorf("%x of %s: error %d", b[:k], c.want, r.Err())
			}
		}
	}
}

// P5.2: a reader that had an error, or is none.
func TestReadOfFailed(t *testing.T) {
	r := coder.Read(unhex("46020340"))
	r.Fail(api.ESUM)
	holds(t, "failed", bits.Read(r), 0)
	if r.Err() != api.ESUM {
		t.Error("the first error became", r.Err())
	}
	for _, r := range []*coder.In{nil, {}} {
		holds(t, "no reader", bits.Read(r), 0)
		if r.Err() != api.ENIL {
			t.Error(r.Err())
		}
	}
}

// P5.2: bytes are new memory.
func TestBytesMemory(t *testing.T) {
	s := made(t, 70, 3, 68)
	b := s.Bytes()
	other := s.Bytes()
	r := coder.Read(b)
	b = b[:cap(b)]
	for i := range b {
		b[i] = 0xFF
	}
	holds(t, "the set", s, 70, 3, 68)
	holds(t, "what is read", bits.Read(r), 70, 3, 68)
	if !bytes.Equal(other, unhex("46020340")) {
		t.Errorf("two answers share memory: %x", other)
	}
	two := coder.Read(append(s.Bytes(), s.Bytes()...))
	x, y := bits.Read(two), bits.Read(two)
	x.Cut(3)
	holds(t, "the second that was read", y, 70, 3, 68)
	if two.End() != api.OK {
		t.Error(two.End())
	}
}
