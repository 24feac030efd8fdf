package dots_test

import (
	"bytes"
	"encoding/hex"
	"math"
	"math/rand"
	"slices"
	"strings"
	"testing"

	"scholia/api"
	"scholia/coder"
	"scholia/dots"
)

func unhex(s string) []byte {
	b, err := hex.DecodeString(s)
	if err != nil {
		panic(err)
	}
	return b
}

// every is a vector with one number at all places.
func every(n int) api.Vector {
	var v api.Vector
	for rep := range v {
		v[rep] = n
	}
	return v
}

// written: vectors, and their bytes.
var written = []struct {
	v    api.Vector
	want string
}{
	{api.Vector{}, "00"},
	{api.Vector{1}, "010000"},
	{api.Vector{0, 1}, "010100"},
	{api.Vector{3, 1}, "02000002" + "00"},
	{api.Vector{2: 300, 5: 128, 6: 129}, "03020200" + "812b" + "7f" + "8080"},
	{api.Vector{63: api.MaxCount}, "013f" + "f03fffffff"},
	{api.Vector{0: api.MaxCount, 63: 1}, "02003e" + "f03fffffff" + "00"},
	{every(1), "40" + strings.Repeat("00", 128)},
	{every(api.MaxCount), "40" + strings.Repeat("00", 64) + strings.Repeat("f03fffffff", 64)},
}

// P8.2, P8.5
func TestBytes(t *testing.T) {
	for _, c := range written {
		for _, ahead := range []string{"", "00", "abcd", strings.Repeat("7f", 300)} {
			if got := hex.EncodeToString(dots.Put(unhex(ahead), c.v)); got != ahead+c.want {
				t.Errorf("%v behind %s: %s, not %s", c.v, ahead, got, c.want)
			}
		}
		if got := hex.EncodeToString(dots.Put(nil, c.v)); got != c.want {
			t.Errorf("%v: %s, not %s", c.v, got, c.want)
		}
		r := coder.Read(append(unhex(c.want), 7, 7))
		if got := dots.Read(r); got != c.v || r.Err() != api.OK || r.Left() != 2 {
			t.Errorf("%s: %v, error %d, left %d", c.want, got, r.Err(), r.Left())
		}
	}
}

// P8.5
func TestBack(t *testing.T) {
	rnd := rand.New(rand.NewSource(31))
	for range 500 {
		var v, w api.Vector
		for range rnd.Intn(100) {
			v[rnd.Intn(64)] = rnd.Intn(1<<rnd.Intn(31) + 1)
			w[rnd.Intn(64)] = inside[rnd.Intn(len(inside))]
		}
		r := coder.Read(dots.Put(dots.Put(nil, v), w))
		first, second := dots.Read(r), dots.Read(r)
		if first != v || second != w || r.End() != api.OK {
			t.Fatalf("%v and %v were read as %v and %v, error %d", v, w, first, second, r.End())
		}
	}
}

// P8.2: of a vector that is not good nothing is written.
func TestPutNotGood(t *testing.T) {
	for _, some := range [][]int{{math.MinInt, -1 << 32, -1}, beyond} {
		for _, n := range some {
			for _, rep := range []int{0, 1, 62, 63} {
				for _, v := range []api.Vector{{}, every(1), every(api.MaxCount)} {
					v[rep] = n
					if got := dots.Put(nil, v); len(got) != 0 {
						t.Errorf("%d at %d: %x", n, rep, got)
					}
					if got := dots.Put([]byte{1, 2}, v); !bytes.Equal(got, []byte{1, 2}) {
						t.Errorf("%d at %d: %x", n, rep, got)
					}
				}
			}
		}
	}
}

// P8.2: bytes that are no vector's.
func TestReadErrors(t *testing.T) {
	for s, e := range map[string]api.Errno{
		"":                                api.ESHORT,
		"01":                              api.ESHORT,
		"0100":                            api.ESHORT,
		"020000":                          api.ESHORT,
		"02000000":                        api.ESHORT,
		"0100f03fffff":                    api.ESHORT,
		"0140":                            api.ELONG, // replica 64
		"014000":                          api.ELONG,
		"013f":                            api.ESHORT,
		"023f0000":                        api.ELONG,
		"02003f0000":                      api.ELONG,
		"41" + strings.Repeat("00", 130):  api.ELONG, // 65 places
		"ff7fffffffffffffff":              api.ELONG,
		"ffffffffffffffffff":              api.ELONG,
		"01ffffffffffffffffff00":          api.ELONG,
		"0100f040000000":                  api.ELONG, // above 2^30
		"0100ffffffffffffffffff":          api.ELONG,
		"0100ff7fffffffffffffff":          api.ELONG,
		"02000005f040000000":              api.ELONG,
		"800100":                          api.EFORM,
		"01800000":                        api.EFORM,
		"01008000":                        api.EFORM,
		"0100f000000001":                  api.EFORM,
		"0100ff00000000000000ff":          api.EFORM,
		"40" + strings.Repeat("00", 64):   api.ESHORT,
		"40" + strings.Repeat("00", 127):  api.ESHORT,
		"40" + strings.Repeat("00", 63):   api.ESHORT,
		"4000" + strings.Repeat("01", 70): api.ELONG,
	} {
		r := coder.Read(unhex(s))
		if got := dots.Read(r); got != (api.Vector{}) || r.Err() != e || r.Left() != 0 {
			t.Errorf("%s: %v, error %d, left %d; not %d", s, got, r.Err(), r.Left(), e)
		}
	}
	for _, c := range written {
		b := unhex(c.want)
		for k := range b {
			r := coder.Read(b[:k])
			if got := dots.Read(r); got != (api.Vector{}) || r.Err() != api.ESHORT {
				t.Errorf("%x of %s: %v, error %d", b[:k], c.want, got, r.Err())
			}
		}
	}
}

// P8.2: a reader that had an error, or is none.
func TestReadOfFailed(t *testing.T) {
	r := coder.Read(unhex("0103020000"))
	r.Fail(api.ESUM)
	if got := dots.Read(r); got != (api.Vector{}) || r.Err() != api.ESUM {
		t.Errorf("%v, error %d", got, r.Err())
	}
	for _, r := range []*coder.In{nil, {}} {
		if got := dots.Read(r); got != (api.Vector{}) || r.Err() != api.ENIL {
			t.Errorf("%v, error %d", got, r.Err())
		}
	}
}

// P8.2: the bytes are new memory, also where nothing is put behind them.
func TestPutMemory(t *testing.T) {
	bad := api.Vector{-1}
	for _, v := range []api.Vector{{}, {5}, every(api.MaxCount), bad} {
		for _, n := range []int{0, 3} {
			room := bytes.Repeat([]byte{9}, 600)
			b := room[:n]
			got, again := dots.Put(b, v), dots.Put(b, v)
			want := slices.Clone(again)
			got = got[:cap(got)]
			for i := range got {
				got[i] = 55
			}
			if !bytes.Equal(again, want) {
				t.Error("two answers share memory")
			}
			if len(b) != n || !bytes.Equal(room, bytes.Repeat([]byte{9}, 600)) {
				t.Error("what was handed in, or the room behind it, was changed")
			}
			for i := range room {
				room[i] = 1
			}
			if !bytes.Equal(again, want) {
				t.Error("an answer is changed with what was handed in")
			}
		}
	}
}
