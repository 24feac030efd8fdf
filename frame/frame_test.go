package frame_test

import (
	"bytes"
	"hash/crc32"
	"testing"

	"scholia/api"
	"scholia/frame"
)

// payloads: nothing, each kind of byte, and lengths about a word's and a page's.
func payloads() [][]byte {
	l := [][]byte{nil, {}, {0}, {255}, {1, 2, 3}, []byte("123456789"), bytes.Repeat([]byte{0}, 32), bytes.Repeat([]byte{255}, 32)}
	var all []byte
	for i := range 300 {
		all = append(all, byte(i*i+7*i+i>>8))
		l = append(l, bytes.Clone(all))
	}
	return l
}

// slow is the sum bit by bit, as the document tells it.
func slow(b []byte) uint32 {
	sum := ^uint32(0)
	for _, c := range b {
		sum ^= uint32(c)
		for range 8 {
			out := sum & 1
			sum >>= 1
			if out == 1 {
				sum ^= 0xEDB88320
			}
		}
	}
	return ^sum
}

// P2.1
func TestSum(t *testing.T) {
	for s, want := range map[string]uint32{
		"":                                   0,
		"\x00":                               0xD202EF8D,
		"a":                                  0xE8B7BE43,
		"123456789":                          0xCBF43926,
		string(bytes.Repeat([]byte{0}, 32)):  0x190A55AD,
		string(bytes.Repeat([]byte{255}, 4)): 0xFFFFFFFF,
	} {
		if got := frame.Sum([]byte(s)); got != want {
			t.Errorf("%q: %x, not %x", s, got, want)
		}
	}
	if frame.Sum(nil) != 0 {
		t.Error("of nil")
	}
	for c := range 256 {
		if b := []byte{byte(c)}; frame.Sum(b) != slow(b) {
			t.Errorf("byte %d: %x", c, frame.Sum(b))
		}
	}
	for _, b := range payloads() {
		was := bytes.Clone(b)
		if got := frame.Sum(b); got != slow(b) || got != crc32.ChecksumIEEE(b) {
			t.Errorf("%x: %x", b, got)
		}
		if !bytes.Equal(b, was) {
			t.Errorf("%x was changed", was)
		}
	}
}

// P2.2
func TestSeal(t *testing.T) {
	if got := frame.Seal([]byte("123456789")); string(got) != "\xcb\xf4\x39\x26123456789" {
		t.Errorf("%x", got)
	}
	if got := frame.Seal(nil); string(got) != "\x00\x00\x00\x00" {
		t.Errorf("%x", got)
	}
	for _, b := range payloads() {
		sealed := frame.Seal(b)
		sum := slow(b)
		want := append([]byte{byte(sum >> 24), byte(sum >> 16), byte(sum >> 8), byte(sum)}, b...)
		if !bytes.Equal(sealed, want) {
			t.Errorf("%x: %x", b, sealed)
		}
		if got, e := frame.Open(sealed); e != api.OK || !bytes.Equal(got, b) {
			t.Errorf("%x: %x %d", b, got, e)
		}
	}
}

// P2.2
func TestOpenErrors(t *testing.T) {
	for _, c := range []struct {
		s    string
		want api.Errno
	}{
		{"", api.ESHORT},
		{"\x00", api.ESHORT},
		{"\x00\x00", api.ESHORT},
		{"\x00\x00\x00", api.ESHORT},
		{"\xcb\xf4\x39", api.ESHORT},
		{"\x00\x00\x00\x01", api.ESUM},
		{"\x01\x00\x00\x00", api.ESUM},
		{"\xff\xff\xff\xff", api.ESUM},
		{"\x00\x00\x00\x00\x00", api.ESUM},
		{"\x26\x39\xf4\xcb123456789", api.ESUM},
		{"\xcb\xf4\x39\x2612345678", api.ESUM},
		{"\xcb\xf4\x39\x26123456789\x00", api.ESUM},
		{"\xcb\xf4\x39\x26", api.ESUM},
	} {
		if b, e := frame.Open([]byte(c.s)); e != c.want || len(b) != 0 {
			t.Errorf("%x: %x %d, not %d", c.s, b, e, c.want)
		}
	}
	if b, e := frame.Open(nil); e != api.ESHORT || len(b) != 0 {
		t.Error(b, e)
	}
	if b, e := frame.Open([]byte{0, 0, 0, 0}); e != api.OK || len(b) != 0 {
		t.Error(b, e)
	}
}

// P2.3: one byte is another one.
func TestTurnedByte(t *testing.T) {
	for _, s := range []string{"", "x", "hello", "\x00\x00\x00\x00\x00\x00\x00\x00", "a longer one, with more than a few words in it"} {
		sealed := frame.Seal([]byte(s))
		for i := range sealed {
			for x := 1; x < 256; x++ {
				sealed[i] ^= byte(x)
				if b, e := frame.Open(sealed); e != api.ESUM || len(b) != 0 {
					t.Fatalf("%q: byte %d turned by %x: %x %d", s, i, x, b, e)
				}
				sealed[i] ^= byte(x)
			}
		}
	}
}

// P2.3: of the sum alone, or behind it alone, up to eight neighbouring bits are turned.
func TestTurnedBits(t *testing.T) {
	for _, s := range []string{"", "x", "hello", "\x00\x00\x00\x00\x00\x00", "\xff\xff\xff\xff\xff"} {
		sealed := frame.Seal([]byte(s))
		for _, part := range [][]byte{sealed[:4], sealed[4:]} {
			was := bytes.Clone(part)
			for at := range 8 * len(part) {
				for x := 1; x < 256; x += 2 {
					if turn(part, at, x) {
						if b, e := frame.Open(sealed); e != api.ESUM || len(b) != 0 {
							t.Fatalf("%q: from bit %d on turned by %x: %x %d", s, at, x, b, e)
						}
					}
					copy(part, was)
				}
			}
		}
	}
}

// turn turns a part's bits from a place on, a byte's lowest one first; false: they are not all there.
func turn(part []byte, at, x int) bool {
	for ; x > 0; x >>= 1 {
		if at >= 8*len(part) {
			return false
		}
		part[at/8] ^= byte(x & 1 << (at % 8))
		at++
	}
	return true
}

// fill spoils an answer, and the room behind its end.
func fill(b []byte) {
	b = b[:cap(b)]
	for i := range b {
		b[i] = 0x55
	}
}

// P2.2: answers are new memory, arguments stay as they are.
func TestMemory(t *testing.T) {
	for _, s := range []string{"", "x", "hello"} {
		for _, room := range []int{0, 1, 4, 64} {
			whole := append([]byte(s), bytes.Repeat([]byte{0xAA}, room)...)
			was := bytes.Clone(whole)
			one, two := frame.Seal(whole[:len(s)]), frame.Seal(whole[:len(s)])
			fill(one)
			if !bytes.Equal(two, frame.Seal([]byte(s))) || !bytes.Equal(whole, was) {
				t.Errorf("Seal of %q shares memory", s)
			}

			whole = append(frame.Seal([]byte(s)), bytes.Repeat([]byte{0xAA}, room)...)
			was = bytes.Clone(whole)
			sealed := whole[:4+len(s)]
			one, _ = frame.Open(sealed)
			two, _ = frame.Open(sealed)
			fill(one)
			if string(two) != s || !bytes.Equal(whole, was) {
				t.Errorf("Open of %q shares memory", s)
			}
			fill(whole)
			if string(two) != s {
				t.Errorf("Open of %q hangs on its argument", s)
			}
		}
	}
}
