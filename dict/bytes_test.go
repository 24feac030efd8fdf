package dict_test

import (
	"bytes"
	"encoding/hex"
	"math/rand"
	"slices"
	"strings"
	"testing"

	"scholia/api"
	"scholia/coder"
	"scholia/dict"
)

// P18.2
func TestBytes(t *testing.T) {
	long := strings.Repeat("x", 64)
	for _, c := range []struct {
		words []string
		want  string
	}{
		{nil, "00"},
		{[]string{"fox", "foxes", "run"}, "03" + "0003666f78" + "03026573" + "000372756e"},
		{[]string{"a"}, "01" + "000161"},
		{[]string{"a", "ab", "abc", "b"}, "04" + "000161" + "010162" + "020163" + "000162"},
		{[]string{"ab", "ac", "ad", "ae", "af"}, "05" + "00026162" + "010163" + "010164" + "010165" + "010166"},
		{[]string{long[:63], long}, "02" + "003f" + strings.Repeat("78", 63) + "3f0178"},
		{[]string{"é", "ê"}, "02" + "0002c3a9" + "0101aa"},
	} {
		d := build(t, c.words)
		if got := hex.EncodeToString(d.Bytes()); got != c.want {
			t.Errorf("%q: %s, not %s", c.words, got, c.want)
		}
		r := coder.Read(unhex(c.want + "0102"))
		if got := dict.Read(r); !slices.Equal(got.Words(), c.words) || r.Err() != api.OK || r.Left() != 2 {
			t.Errorf("%s: %q, error %d, left %d", c.want, got.Words(), r.Err(), r.Left())
		}
	}
}

// P18.2, P18.3
func TestBack(t *testing.T) {
	rnd := rand.New(rand.NewSource(182))
	for range 400 {
		words := someWords(rnd, 40)
		b := build(t, words).Bytes()
		if !bytes.Equal(b, written(words)) {
			t.Fatalf("%q: %x", words, b)
		}
		r := coder.Read(append(slices.Clone(b), 7))
		d := dict.Read(r)
		if r.Err() != api.OK || r.Left() != 1 || !slices.Equal(d.Words(), words) || !bytes.Equal(d.Bytes(), b) {
			t.Fatalf("%x: %q, error %d", b, d.Words(), r.Err())
		}
		for _, w := range words {
			if i, ok := d.Seek(w); !ok || words[i] != w {
				t.Fatal(words, w)
			}
		}
	}
	all := numbered(16384)
	r := coder.Read(build(t, all).Bytes())
	if d := dict.Read(r); r.End() != api.OK || !slices.Equal(d.Words(), all) {
		t.Error(r.End(), d.Len())
	}
}

// P18.2: bytes that are none.
func TestReadErrors(t *testing.T) {
	x64 := "40" + strings.Repeat("78", 64)
	for s, e := range map[string]api.Errno{
		"":                                  api.ESHORT,
		"01":                                api.ESHORT,
		"0100":                              api.ESHORT,
		"010001":                            api.ESHORT,
		"c04001":                            api.ELONG, // 16385 words
		"ffffffffffffffffff":                api.ELONG,
		"8000":                              api.EFORM,
		"010101" + "61":                     api.ELONG, // the first one is like nothing
		"02" + "000161" + "020162":          api.ELONG, // more than the one ahead has
		"01" + "0041" + x64[2:] + "78":      api.ELONG, // 65 bytes
		"01" + "0000":                       api.EFORM, // an empty word
		"02" + "000161" + "0000":            api.EFORM,
		"02" + "000161" + "0100":            api.EFORM, // the same word
		"02" + "000162" + "000161":          api.EFORM, // it falls
		"02" + "00026162" + "010161":        api.EFORM,
		"02" + "00026162" + "0100":          api.EFORM, // ab, a
		"02" + "000161" + "00026162":        api.EFORM, // like is 1, not 0
		"02" + "00026162" + "00026163":      api.EFORM,
		"02" + "00026162" + "01026263":      api.EFORM, // abc, as if it began with a alone
		"02" + "000178" + "01" + x64:        api.EFORM, // 65 bytes in all
		"02" + "00" + x64 + "40" + "0178":   api.EFORM,
		"02" + "00" + x64 + "40" + "00":     api.EFORM,
		"03" + "000162" + "000161":          api.ESHORT, // what is not there comes ahead of what may not be
		"03" + "000162" + "000161" + "02":   api.ELONG,
		"03" + "000162" + "000161" + "8000": api.EFORM,
		"03" + "000178" + "01" + x64 + "41" + "0141": api.EFORM, // so many bytes has the one ahead that may not be
		"03" + "000178" + "01" + x64 + "42" + "0141": api.ELONG,
	} {
		r := coder.Read(unhex(s))
		if got := dict.Read(r); !empty(got) || r.Err() != e || r.Left() != 0 {
			t.Errorf("%s: %q, error %d, not %d", s, got.Words(), r.Err(), e)
		}
	}
}

// P18.2: readers that have an error, or are none.
func TestReadNone(t *testing.T) {
	for _, r := range []*coder.In{nil, new(coder.In)} {
		if got := dict.Read(r); !empty(got) {
			t.Errorf("%q", got.Words())
		}
	}
	r := coder.Read([]byte{0})
	r.Fail(api.EPEER)
	if got := dict.Read(r); !empty(got) || r.Err() != api.EPEER {
		t.Errorf("%q, error %d", got.Words(), r.Err())
	}
	if got := dict.Read(coder.Read([]byte{0})); !empty(got) {
		t.Errorf("%q", got.Words())
	}
}

// P18.2: cut off anywhere, and with any byte turned.
func TestTurned(t *testing.T) {
	b := build(t, []string{"fo", "fox", "foxes", "foy", "run", "runs"}).Bytes()
	for k := range b {
		r := coder.Read(b[:k])
		if got := dict.Read(r); !empty(got) || r.Err() != api.ESHORT {
			t.Errorf("%x: %q, error %d", b[:k], got.Words(), r.Err())
		}
	}
	for at := range b {
		for x := 1; x < 256; x++ {
			turned := slices.Clone(b)
			turned[at] ^= byte(x)
			r := coder.Read(turned)
			d := dict.Read(r)
			if r.Err() != api.OK {
				if !empty(d) || r.Left() != 0 {
					t.Fatalf("%x: %q with an error", turned, d.Words())
				}
				continue
			}
			if !bytes.Equal(d.Bytes(), turned[:len(turned)-r.Left()]) {
				t.Fatalf("%x: %q", turned, d.Words())
			}
		}
	}
}

// P18.2: words that grow and grow may not be, and all ends soon.
func TestReadGrowing(t *testing.T) {
	b := coder.Num(nil, 16384)
	for i := range 16384 {
		b = append(b, coder.Text(coder.Num(nil, 64*i), strings.Repeat("x", 64))...)
	}
	r := coder.Read(b)
	if got := dict.Read(r); !empty(got) || r.Err() != api.EFORM {
		t.Error(got.Len(), r.Err())
	}
}

// P18.2: bytes of any content.
func TestReadAny(t *testing.T) {
	rnd := rand.New(rand.NewSource(183))
	for range 20000 {
		b := make([]byte, rnd.Intn(24))
		for i := range b {
			b[i] = byte(rnd.Intn(4))
			if rnd.Intn(4) == 0 {
				b[i] = byte(rnd.Intn(256))
			}
		}
		r := coder.Read(b)
		d := dict.Read(r)
		if r.Err() != api.OK && !empty(d) || r.Err() == api.OK && !bytes.Equal(written(d.Words()), b[:len(b)-r.Left()]) {
			t.Fatalf("%x: %q, error %d", b, d.Words(), r.Err())
		}
	}
}
