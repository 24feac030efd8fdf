package segment_test

import (
	"bytes"
	"encoding/hex"
	"math/rand"
	"slices"
	"strings"
	"testing"

	"scholia/api"
	"scholia/coder"
	"scholia/segment"
)

// P20.4
func TestBytes(t *testing.T) {
	for _, c := range []struct {
		docs []api.Doc
		gone string
		want string
	}{
		{nil, "", "00" + "0000" + "00"},
		{[]api.Doc{doc("a")}, "", "01" + "0161" + "010100" + "00"},
		{[]api.Doc{doc("a")}, "a", "01" + "0161" + "0100" + "00"},
		{[]api.Doc{doc("a", "red fox"), doc("b", "red")}, "", "02" + "01610162" + "02020000" + "02" + "0003666f78" + "0003726564" +
			"08" + "01" + "0005" + "0001010101" + "0d" + "02" + "010a" + "0001010100" + "0001010100"},
		{[]api.Doc{doc("a", "red fox"), doc("b", "red")}, "a", "02" + "01610162" + "020101" + "02" + "0003666f78" + "0003726564" +
			"08" + "01" + "0005" + "0001010101" + "0d" + "02" + "010a" + "0001010100" + "0001010100"},
	} {
		s := build(t, c.docs)
		s.Kill(c.gone)
		if got := hex.EncodeToString(s.Bytes()); got != c.want {
			t.Errorf("%v: %s, not %s", c.docs, got, c.want)
		}
		r := coder.Read(unhex(c.want + "0102"))
		again := segment.Read(r)
		if again == nil || r.Err() != api.OK || r.Left() != 2 {
			t.Fatalf("%s: error %d, left %d", c.want, r.Err(), r.Left())
		}
		same(t, again, c.docs, map[string]bool{c.gone: true})
	}
}

// P20.4, P20.5
func TestBack(t *testing.T) {
	rnd := rand.New(rand.NewSource(203))
	for round := range 150 {
		docs := someDocs(rnd, 1+round%12)
		s := build(t, docs)
		gone := map[string]bool{}
		for _, d := range docs {
			if rnd.Intn(3) == 0 {
				gone[d.Id] = true
				s.Kill(d.Id)
			}
		}
		b := s.Bytes()
		r := coder.Read(append(slices.Clone(b), 7))
		again := segment.Read(r)
		if again == nil || r.Err() != api.OK || r.Left() != 1 {
			t.Fatalf("%x: error %d", b, r.Err())
		}
		same(t, again, docs, gone)
		for _, d := range docs {
			if again.Kill(d.Id) == gone[d.Id] {
				t.Fatal(d.Id)
			}
		}
		same(t, s, docs, gone)
	}
}

// P20.4: bytes that are none.
func TestReadErrors(t *testing.T) {
	red := "0003726564"
	first := "08" + "01" + "0005" + "0001010100" // of document 0
	both := "0d" + "02" + "010a" + "0001010100" + "0001010100"
	for s, e := range map[string]api.Errno{
		"":                                       api.ESHORT,
		"00" + "0000":                            api.ESHORT,
		"8000":                                   api.EFORM,
		"ffffffffffffffffff":                     api.ELONG,
		"ff7fffffffffffffff":                     api.ESHORT,
		"01" + "00" + "010100" + "00":            api.EFORM, // no name
		"02" + "0161" + "00" + "02020000" + "00": api.EFORM,
		"02" + "0161" + "0161" + "02020000" + "00":                             api.EFORM, // one name twice
		"02" + "0162" + "0161" + "02020000" + "00":                             api.EFORM, // they fall
		"01" + "0d31323334353637383930313233" + "010100" + "00":                api.EFORM, // 13 bytes
		"01" + "8161" + strings.Repeat("61", 0x161) + "010100" + "00":          api.EFORM,
		"01" + "0161" + "0000" + "00":                                          api.EFORM, // a set of another size
		"01" + "0161" + "020100" + "00":                                        api.EFORM,
		"00" + "0100" + "00":                                                   api.EFORM,
		"01" + "0161" + "010101" + "00":                                        api.ELONG, // no set
		"01" + "0161" + "01020000" + "00":                                      api.ELONG,
		"01" + "0161" + "010100" + "01" + "0000" + first:                       api.EFORM, // no dictionary
		"01" + "0161" + "010100" + "01" + "0100" + first:                       api.ELONG,
		"01" + "0161" + "010100" + "01" + red:                                  api.ESHORT,
		"01" + "0161" + "010100" + "01" + red + "00":                           api.EFORM, // no postings' bytes
		"01" + "0161" + "010100" + "01" + red + "0100":                         api.EFORM, // no posting
		"01" + "0161" + "010100" + "01" + red + "0101":                         api.EFORM,
		"01" + "0161" + "010100" + "01" + red + "09" + first[2:] + "00":        api.EFORM, // a byte too long
		"01" + "0161" + "010100" + "01" + red + "07" + first[2:]:               api.EFORM, // postings that are cut off
		"01" + "0161" + "010100" + "01" + red + both:                           api.EFORM, // document 1
		"00" + "0000" + "01" + red + first:                                     api.EFORM, // document 0
		"01" + "0161" + "010100" + "02" + red + "0301" + "65" + first + "0100": api.EFORM,
		"01" + "0161" + "010100" + "02" + red + "0301" + "65" + "0100" + first: api.EFORM,
		"01" + "0161" + "010100" + "02" + red + "0301" + "65" + both + first:   api.EFORM,
		"02" + "0162" + "0161" + "0202":                                        api.ESHORT, // what is not there comes ahead of what may not be
		"02" + "0162" + "0161" + "030100" + "00":                               api.EFORM,
	} {
		r := coder.Read(unhex(s))
		if got := segment.Read(r); got != nil || r.Err() != e || r.Left() != 0 {
			t.Errorf("%s: error %d, not %d", s, r.Err(), e)
		}
	}
}

// P20.4: as many documents as may be, and one more.
func TestReadMany(t *testing.T) {
	for _, many := range []int{4096, 4097} {
		b := coder.Num(nil, many)
		var all []int
		for i, d := range numbered(many) {
			b = append(b, coder.Text(nil, d.Id)...)
			all = append(all, i)
		}
		b = append(coder.Rising(coder.Num(b, many), all), 0)
		r := coder.Read(b)
		s := segment.Read(r)
		if many == 4096 && (s == nil || r.End() != api.OK || !bytes.Equal(s.Bytes(), b)) || many == 4097 && (s != nil || r.Err() != api.EFORM) {
			t.Errorf("%d: error %d", many, r.Err())
		}
	}
}

// P20.4: readers that have an error, or are none.
func TestReadNone(t *testing.T) {
	for _, r := range []*coder.In{nil, new(coder.In)} {
		if segment.Read(r) != nil {
			t.Error("a segment")
		}
	}
	r := coder.Read(make([]byte, 4))
	r.Fail(api.EPEER)
	if segment.Read(r) != nil || r.Err() != api.EPEER {
		t.Error(r.Err())
	}
}

// P20.4: cut off anywhere, and with any byte turned.
func TestTurned(t *testing.T) {
	s := build(t, []api.Doc{doc("a", "red fox", "", "fox"), doc("b", "red foxes"), doc("c"), doc("d", "fox"), doc("e", "fox"), doc("f", "red fox"), doc("g", "run")})
	s.Kill("b")
	b := s.Bytes()
	for k := range b {
		r := coder.Read(b[:k])
		if segment.Read(r) != nil || r.Err() != api.ESHORT {
			t.Errorf("%x: error %d", b[:k], r.Err())
		}
	}
	for at := range b {
		for x := 1; x < 256; x++ {
			turned := slices.Clone(b)
			turned[at] ^= byte(x)
			r := coder.Read(turned)
			got := segment.Read(r)
			if (got == nil) != (r.Err() != api.OK) || got == nil && r.Left() != 0 {
				t.Fatalf("%x: error %d", turned, r.Err())
			}
			if got != nil && !bytes.Equal(got.Bytes(), turned[:len(turned)-r.Left()]) {
				t.Fatalf("%x: %x", turned, got.Bytes())
			}
		}
	}
}

// P20.4: bytes of any content.
func TestReadAny(t *testing.T) {
	rnd := rand.New(rand.NewSource(204))
	fine := 0
	for range 100000 {
		b := make([]byte, rnd.Intn(20))
		for i := range b {
			b[i] = byte(rnd.Intn(3))
			if rnd.Intn(9) == 0 {
				b[i] = byte(rnd.Intn(256))
			}
		}
		r := coder.Read(b)
		s := segment.Read(r)
		if (s == nil) != (r.Err() != api.OK) || s != nil && !bytes.Equal(s.Bytes(), b[:len(b)-r.Left()]) {
			t.Fatalf("%x: error %d", b, r.Err())
		}
		if s != nil {
			fine++
		}
	}
	if fine == 0 {
		t.Error("none was fine")
	}
}

// P20.4: what was read is not what the reader was handed.
func TestReadMemory(t *testing.T) {
	docs := []api.Doc{doc("a", "red fox"), doc("b", "red")}
	b := build(t, docs).Bytes()
	r := coder.Read(append(slices.Clone(b), b...))
	one, two := segment.Read(r), segment.Read(r)
	one.Kill("a")
	for i := range b {
		b[i] = 0x77
	}
	same(t, one, docs, map[string]bool{"a": true})
	same(t, two, docs, nil)
}
