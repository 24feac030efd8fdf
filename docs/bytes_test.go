package docs_test

import (
	"bytes"
	"encoding/hex"
	"math"
	"math/rand"
	"slices"
	"strings"
	"testing"

	"scholia/api"
	"scholia/coder"
	"scholia/docs"
	"scholia/dots"
)

// P12.4
func TestDotBytes(t *testing.T) {
	for _, c := range []struct {
		d    api.Dot
		want string
	}{
		{dot(0, 1), "0001"},
		{dot(3, 7), "0307"},
		{dot(63, 127), "3f7f"},
		{dot(1, 300), "01812c"},
		{dot(63, api.MaxCount), "3ff040000000"},
	} {
		for _, ahead := range []string{"", "00", "abcd"} {
			if got := hex.EncodeToString(docs.PutDot(unhex(ahead), c.d)); got != ahead+c.want {
				t.Errorf("%v behind %s: %s, not %s", c.d, ahead, got, c.want)
			}
		}
		r := coder.Read(unhex(c.want + "0102"))
		if got := docs.ReadDot(r); got != c.d || r.Err() != api.OK || r.Left() != 2 {
			t.Errorf("%s: %v, error %d, left %d", c.want, got, r.Err(), r.Left())
		}
		for k := range len(c.want) / 2 {
			r := coder.Read(unhex(c.want[:2*k]))
			if got := docs.ReadDot(r); got != (api.Dot{}) || r.Err() != api.ESHORT {
				t.Errorf("%s: %v, error %d", c.want[:2*k], got, r.Err())
			}
		}
	}
}

// P12.4: dots that may not be.
func TestReadDotErrors(t *testing.T) {
	for s, e := range map[string]api.Errno{
		"":                     api.ESHORT,
		"4001":                 api.ELONG, // replica 64
		"ff800000000000000001": api.ELONG,
		"ffffffffffffffffff01": api.ELONG,
		"00f040000001":         api.ELONG, // 2^30 + 1
		"00ffffffffffffffffff": api.ELONG,
		"00ff7fffffffffffffff": api.ELONG,
		"800001":               api.EFORM,
		"008001":               api.EFORM,
		"00ff0000000000000001": api.EFORM,
	} {
		r := coder.Read(unhex(s))
		if got := docs.ReadDot(r); got != (api.Dot{}) || r.Err() != e || r.Left() != 0 {
			t.Errorf("%s: %v, error %d, not %d", s, got, r.Err(), e)
		}
	}
}

// P12.4: what has no bytes of its own is put as coder puts it.
func TestPutDotStrange(t *testing.T) {
	for _, d := range append([]api.Dot{dot(5, 6)}, badDots...) {
		want := coder.Num(coder.Num([]byte{7}, d.Rep), d.N)
		if got := docs.PutDot([]byte{7}, d); !bytes.Equal(got, want) {
			t.Errorf("%v: %x", d, got)
		}
	}
}

// written: states, and their bytes.
var written = []struct {
	s    api.State
	want string
}{
	{api.State{}, "00" + "00"},
	{api.State{Seen: api.Vector{0, 5}}, "010104" + "00"},
	{api.State{Seen: api.Vector{1}, Live: []api.Write{{Dot: dot(0, 1), Time: 1, Doc: "a", Field: 1, Text: "x"}}}, "010000" + "01" + "0001" + "01" + "0161" + "01" + "0178"},
	{api.State{Seen: api.Vector{300, 2}, Live: []api.Write{
		{Dot: dot(1, 2), Time: 1 << 40, Doc: "a-1"},
		{Dot: dot(0, 300), Time: 300, Doc: "b", Field: 4, Text: "é"},
		{Dot: dot(1, 1), Time: 2, Doc: "b", Field: 4},
	}}, "020000812b01" + "03" +
		"0102" + "f90000000000" + "03612d31" + "00" + "00" +
		"00812c" + "812c" + "0162" + "04" + "02c3a9" +
		"0101" + "02" + "0162" + "04" + "00"},
	{api.State{Seen: api.Vector{63: api.MaxCount}, Live: []api.Write{{Dot: dot(63, api.MaxCount), Time: 7, Doc: "012345678-az", Field: 2, Text: strings.Repeat("z", 160)}}},
		"013ff03fffffff" + "01" + "3ff040000000" + "07" + "0c3031323334353637382d617a" + "02" + "80a0" + strings.Repeat("7a", 160)},
}

// P12.4
func TestBytes(t *testing.T) {
	for _, c := range written {
		for _, ahead := range []string{"", "00", "abcd", strings.Repeat("7f", 300)} {
			if got := hex.EncodeToString(docs.Put(unhex(ahead), c.s)); got != ahead+c.want {
				t.Errorf("%v behind %s: %s, not %s", c.s.Live, ahead, got, c.want)
			}
		}
		r := coder.Read(unhex(c.want + "0000"))
		if got := docs.ReadState(r); !sameState(got, c.s) || r.Err() != api.OK || r.Left() != 2 {
			t.Errorf("%s: %v, error %d, left %d", c.want, got, r.Err(), r.Left())
		}
		b := unhex(c.want)
		for k := range b {
			r := coder.Read(b[:k])
			if got := docs.ReadState(r); !sameState(got, api.State{}) || r.Err() != api.ESHORT {
				t.Errorf("%x: %v, error %d", b[:k], got, r.Err())
			}
		}
	}
}

// P12.4: whatever byte is turned, what is read can be, and has these bytes, or there is an error.
func TestTurned(t *testing.T) {
	for _, c := range written {
		b := unhex(c.want)
		for at := range b {
			for x := 1; x < 256; x++ {
				turned := slices.Clone(b)
				turned[at] ^= byte(x)
				r := coder.Read(turned)
				got := docs.ReadState(r)
				if r.Err() != api.OK {
					if !sameState(got, api.State{}) || r.Left() != 0 {
						t.Fatalf("%x: %v with an error", turned, got)
					}
					continue
				}
				if !docs.Can(got) || !bytes.Equal(docs.Put(nil, got), turned[:len(turned)-r.Left()]) {
					t.Fatalf("%x: %v", turned, got)
				}
			}
		}
	}
}

// P12.4: bytes that are no state's.
func TestReadStateErrors(t *testing.T) {
	const one = "010000" + "01"
	for s, e := range map[string]api.Errno{
		"":                                       api.ESHORT,
		"00":                                     api.ESHORT,
		"004fff":                                 api.ESHORT,
		"0001":                                   api.ESHORT,
		"00" + "9000":                            api.ESHORT, // 4096 writes
		"00" + "9001":                            api.ELONG,
		"00" + "ffffffffffffffffff":              api.ELONG,
		"00" + "ff7fffffffffffffff":              api.ELONG,
		"00" + "8000":                            api.EFORM,
		"0140":                                   api.ELONG,
		one + "400101016101" + "0178":            api.ELONG, // replica 64
		one + "00f040000001" + "01016101" + "00": api.ELONG,
		one + "0001" + "f90000000001":            api.ELONG, // above 2^40
		one + "0001" + "01" + "0d":               api.ELONG, // 13 bytes of a name
		one + "0001" + "01" + "0161" + "05":      api.ELONG, // field 5
		one + "0001" + "01" + "0161" + "01" + "80a1" + strings.Repeat("61", 161): api.ELONG,
		one + "0001" + "01" + "0161" + "01" + "02" + "78":                        api.ESHORT,
		// What is read well, but can't be.
		one + "0002" + "01" + "0161" + "01" + "0178":                    api.EFORM, // not in the vector
		one + "0101" + "01" + "0161" + "01" + "0178":                    api.EFORM,
		one + "0000" + "01" + "0161" + "01" + "0178":                    api.EFORM, // no dot
		one + "0001" + "00" + "0161" + "01" + "0178":                    api.EFORM, // no time
		one + "0001" + "01" + "00" + "01" + "0178":                      api.EFORM, // no name
		one + "0001" + "01" + "0141" + "01" + "0178":                    api.EFORM,
		one + "0001" + "01" + "0161" + "00" + "0178":                    api.EFORM, // a text in field 0
		one + "0001" + "01" + "0161" + "01" + "01ff":                    api.EFORM, // no UTF-8
		"010001" + "02" + "000101016101" + "00" + "000101016101" + "00": api.EFORM, // twice
		"010001" + "02" + "000201016101" + "00" + "000101016101" + "00": api.EFORM, // not in order
		"010001" + "02" + "000101016201" + "00" + "000201016101" + "00": api.EFORM,
		"010001" + "02" + "000101016102" + "00" + "000201016101" + "00": api.EFORM,
	} {
		r := coder.Read(unhex(s))
		if got := docs.ReadState(r); !sameState(got, api.State{}) || r.Err() != e || r.Left() != 0 {
			t.Errorf("%s: %v, error %d, left %d; not %d", s, got, r.Err(), r.Left(), e)
		}
	}
}

// P12.4: a reader that had an error, or is none.
func TestReadOfFailed(t *testing.T) {
	r := coder.Read(unhex(written[2].want))
	r.Fail(api.ESUM)
	if got := docs.ReadState(r); !sameState(got, api.State{}) || r.Err() != api.ESUM {
		t.Errorf("%v, error %d", got, r.Err())
	}
	if got := docs.ReadDot(r); got != (api.Dot{}) || r.Err() != api.ESUM {
		t.Errorf("%v, error %d", got, r.Err())
	}
	for _, r := range []*coder.In{nil, {}} {
		if got := docs.ReadState(r); !sameState(got, api.State{}) || r.Err() != api.ENIL {
			t.Errorf("%v, error %d", got, r.Err())
		}
		if got := docs.ReadDot(r); got != (api.Dot{}) || r.Err() != api.ENIL {
			t.Errorf("%v, error %d", got, r.Err())
		}
	}
}

// P12.4: as many writes as there may be; of one more nothing is put.
func TestBytesMany(t *testing.T) {
	s := api.State{Seen: api.Vector{5000}}
	for i := range 4096 {
		s.Live = append(s.Live, api.Write{Dot: dot(0, i+1), Time: 1, Doc: "a", Field: 1, Text: strings.Repeat("x", 160)})
	}
	b := docs.Put(nil, s)
	r := coder.Read(b)
	if got := docs.ReadState(r); !sameState(got, s) || r.End() != api.OK {
		t.Fatal("4096 writes are not read", r.End())
	}
	// One more behind them by hand: it is told by the number alone.
	r = coder.Read(append(coder.Num(dots.Put(nil, s.Seen), 4097), b...))
	if got := docs.ReadState(r); !sameState(got, api.State{}) || r.Err() != api.ELONG {
		t.Fatal(r.Err())
	}
	s.Live = append(s.Live, api.Write{Dot: dot(0, 4097), Time: 1, Doc: "a", Field: 1})
	if got := docs.Put([]byte{1, 2}, s); !bytes.Equal(got, []byte{1, 2}) {
		t.Fatal(len(got))
	}
}

// P12.4: of a state that can't be nothing is put.
func TestPutCant(t *testing.T) {
	rnd := rand.New(rand.NewSource(21))
	can, cant := 0, 0
	for range 3000 {
		s := someState(rnd)
		s.Seen[0], s.Seen[1], s.Seen[2] = max(s.Seen[0], 0)+2, max(s.Seen[1], 0)+2, max(s.Seen[2], rnd.Intn(9)-1)+2
		if rnd.Intn(3) > 0 {
			s.Live = s.Live[:min(len(s.Live), 2)]
		}
		got := docs.Put([]byte{9}, s)
		if !docs.Can(s) {
			cant++
			if !bytes.Equal(got, []byte{9}) || len(docs.Put(nil, s)) != 0 {
				t.Fatalf("%v: %x", s, got)
			}
			continue
		}
		can++
		r := coder.Read(got[1:])
		if back := docs.ReadState(r); !sameState(back, s) || r.End() != api.OK {
			t.Fatalf("%v is read as %v", s, back)
		}
	}
	if can < 500 || cant < 500 {
		t.Error("too few of one kind", can, cant)
	}
	for _, n := range []int{-1, math.MinInt, api.MaxCount + 1, math.MaxInt} {
		if got := docs.Put([]byte{9}, api.State{Seen: api.Vector{3: n}}); !bytes.Equal(got, []byte{9}) {
			t.Errorf("%d: %x", n, got)
		}
	}
}

// P12.4: the bytes are new memory, also where nothing is put behind them.
func TestBytesMemory(t *testing.T) {
	puts := []func(b []byte) []byte{
		func(b []byte) []byte { return docs.PutDot(b, dot(3, 4)) },
		func(b []byte) []byte { return docs.Put(b, api.State{Seen: api.Vector{-1}}) },
	}
	for _, c := range written {
		puts = append(puts, func(b []byte) []byte { return docs.Put(b, c.s) })
	}
	for i, put := range puts {
		for _, n := range []int{0, 3} {
			room := bytes.Repeat([]byte{9}, 600)
			got, again := put(room[:n]), put(room[:n])
			want := slices.Clone(again)
			got = got[:cap(got)]
			for i := range got {
				got[i] = 55
			}
			if !bytes.Equal(again, want) || !bytes.Equal(room, bytes.Repeat([]byte{9}, 600)) {
				t.Errorf("%d: memory is shared, or was changed", i)
			}
			for i := range room {
				room[i] = 1
			}
			if !bytes.Equal(again, want) {
				t.Errorf("%d: an answer is changed with what was handed in", i)
			}
		}
	}
	s := api.State{Seen: written[3].s.Seen, Live: roomy(written[3].s.Live)}
	was := slices.Clone(s.Live[:cap(s.Live)])
	docs.Put(nil, s)
	if !slices.Equal(s.Live[:cap(s.Live)], was) {
		t.Error("the state, or the room behind it, was changed")
	}
	b := unhex(written[3].want)
	first, second := docs.ReadState(coder.Read(b)), docs.ReadState(coder.Read(b))
	spoil(second.Live)
	for i := range b {
		b[i] = 7
	}
	if !sameState(first, written[3].s) {
		t.Error("what was read shares memory")
	}
}
