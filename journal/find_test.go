package journal_test

import (
	"bytes"
	"encoding/binary"
	"math/rand"
	"testing"

	"scholia/api"
	"scholia/coder"
	"scholia/journal"
)

// logAt is an image of a device with a log in a half, said by a slot.
func logAt(n, slot, half int, epoch uint32, l ...[]byte) [][]byte {
	was := blank(n)
	lay(was, 2+half*((n-2)/2), 0, epoch, parts(l...))
	say(was, slot, half, epoch)
	return was
}

// turned is bytes with one of them turned.
func turned(b []byte, i int) []byte {
	b = bytes.Clone(b)
	b[i]++
	return b
}

// finds tells whether Open finds a snapshot and records, and finds them again, and again; none: there is no log.
func finds(t *testing.T, what any, was [][]byte, want ...[]byte) {
	t.Helper()
	d := drawn(t, was)
	if len(want) == 0 {
		l, e := journal.Open(d)
		refused(t, what, e, api.EFORM)
		if l != nil {
			t.Fatalf("%v: a log", what)
		}
		looks(t, what, d, was)
		return
	}
	for range 3 {
		holds(t, what, open(t, what, d), len(want)-1, want[0], want[1:]...)
	}
}

// P11.1: which slot counts.
func TestSlots(t *testing.T) {
	a, b := []byte("first"), []byte("second")
	both := func(slotA, epochA, slotB, epochB int) [][]byte { // a in the half 0, b in the half 1
		was := blank(12)
		lay(was, 2, 0, uint32(epochA), part(a))
		lay(was, 7, 0, uint32(epochB), part(b))
		say(was, slotA, 0, uint32(epochA))
		say(was, slotB, 1, uint32(epochB))
		return was
	}
	for _, slot := range []int{0, 1} {
		other := 1 - slot
		finds(t, "the greater", both(slot, 8, other, 7), a)
		finds(t, "the greater", both(slot, 7, other, 8), b)
		finds(t, "the greater", both(slot, 255, other, 256), b)
		finds(t, "the greater", both(slot, 1<<24, other, 1<<16+5), a)
		finds(t, "the greater", both(slot, 1<<31-7, other, 1<<31-6), b)
		for _, x := range [][]byte{
			blank(1)[0],
			leaf(5, 0, 0, []byte{1}),              // no epoch
			leaf(5, 9, 0, nil),                    // no byte
			leaf(5, 9, 0, []byte{1, 1}),           // two
			leaf(5, 9, 0, make([]byte, 113)),      // very many
			leaf(5, 9, 0, []byte{2}),              // no half
			leaf(5, 9, 0, []byte{255}),            // no half
			leaf(5, 9, 0, []byte{128}),            // no half
			turned(leaf(5, 9, 0, []byte{1}), 0),   // two stamps
			turned(leaf(5, 9, 0, []byte{1}), 3),   // two stamps
			turned(leaf(5, 9, 0, []byte{1}), 124), // two stamps
			turned(leaf(5, 9, 0, []byte{1}), 127), // two stamps
		} {
			was := both(slot, 8, other, 9)
			was[other] = x
			finds(t, x, was, a)
			was[slot] = x
			finds(t, x, was)
		}
		// The slot counts, but its half has no such log; the other one is not asked.
		was := both(slot, 8, other, 9)
		was[other] = leaf(5, 10, 0, []byte{1})
		finds(t, "another epoch", was)
		was = both(slot, 8, other, 9)
		was[7] = turned(was[7], 124)
		finds(t, "no page", was)
	}
	// Of one epoch the first one counts.
	finds(t, "one epoch", both(0, 6, 1, 6), a)
	finds(t, "one epoch", both(1, 6, 0, 6), b)
	// What stands behind the byte does not matter.
	was := both(0, 6, 1, 7)
	was[1][12], was[1][123] = 9, 9
	finds(t, "noughts", was, b)
}

// P11.1: a slot may say either half; the log goes to the other half, and the other slot.
func TestCrossed(t *testing.T) {
	for slot := range 2 {
		for half := range 2 {
			was := logAt(11, slot, half, 41, some(1, 200))
			d := drawn(t, was)
			holds(t, slot, open(t, slot, d), 0, some(1, 200))
			want := logAt(11, 1-slot, 1-half, 42, some(1, 200))
			for i, b := range want {
				if bytes.Equal(b, make([]byte, 128)) {
					want[i] = was[i]
				}
			}
			looks(t, slot, d, want)
		}
	}
}

// P11.1: which pages are a log's.
func TestPages(t *testing.T) {
	l := [][]byte{some(1, 60), some(2, 30), some(3, 100), some(4, 5), some(5, 300)}
	all := parts(l...) // of 65, 35, 105, 10 and 306 bytes
	was := logAt(16, 0, 0, 3, l...)
	finds(t, "all", was, l...)
	for i, has := range []int{0, 2, 4, 4, 4} { // without that page, the parts ahead of it
		for name, x := range map[string][]byte{
			"blank":          make([]byte, 128),
			"two stamps":     turned(was[2+i], 2),
			"another end":    turned(was[2+i], 125),
			"no epoch":       leaf(3, 0, i, was[2+i][11:124]),
			"epoch ahead":    leaf(3, 2, i, was[2+i][11:124]),
			"epoch behind":   leaf(3, 4, i, was[2+i][11:124]),
			"far epoch":      leaf(3, 3+1<<24, i, was[2+i][11:124]),
			"index ahead":    leaf(3, 3, i-1, was[2+i][11:124]),
			"index behind":   leaf(3, 3, i+1, was[2+i][11:124]),
			"far index":      leaf(3, 3, i+256, was[2+i][11:124]),
			"114 bytes":      turned(leaf(3, 3, i, was[2+i][11:124]), 10),
			"too many bytes": func() []byte { b := bytes.Clone(was[2+i]); b[10] = 255; return b }(),
			"no bytes":       leaf(3, 3, i, nil),
		} {
			spoilt := append([][]byte(nil), was...)
			spoilt[2+i] = x
			// A page of no bytes is whole: those behind it are there, but not the text that they begin in.
			finds(t, name, spoilt, l[:has]...)
		}
	}
	// Pages may have any bytes, few or none.
	parted := blank(44)
	say(parted, 0, 0, 3)
	rest, index := all, 0
	for _, n := range []int{1, 0, 113, 2, 0, 0, 50, 70, 1, 1, 112, 113, 40, 113, 0} {
		n = min(n, len(rest))
		parted[2+index] = leaf(uint32(index), 3, index, rest[:n])
		rest = rest[n:]
		index++
	}
	if len(rest) > 0 {
		t.Fatal(len(rest))
	}
	finds(t, "parted", parted, l...)
	// What stands behind a page's bytes does not matter.
	was = logAt(16, 0, 0, 3, l...)
	was[6][123] = 9
	finds(t, "noughts", was, l...)
	// A half ends where it ends: what is behind it is the other one's, or none's.
	was = blank(9)
	lay(was, 2, 0, 3, parts(some(1, 200), some(2, 200)))
	say(was, 0, 0, 3)
	finds(t, "the half's end", was, some(1, 200))
	was = blank(9)
	lay(was, 5, 0, 3, parts(some(1, 200), some(2, 200)))
	say(was, 0, 1, 3)
	finds(t, "the device's end", was, some(1, 200))
}

// P11.1: which bytes are a snapshot and records.
func TestParts(t *testing.T) {
	snap, a := some(1, 30), some(2, 20)
	whole := parts(snap, a)
	for k := range whole {
		want := [][]byte{snap}
		if k < len(part(snap)) {
			want = nil
		}
		was := blank(8)
		say(was, 0, 0, 3)
		lay(was, 2, 0, 3, whole[:k])
		finds(t, k, was, want...)
		was = blank(8)
		say(was, 0, 0, 3)
		lay(was, 2, 0, 3, turned(whole, k)) // of a text, its length, its sum, or itself
		finds(t, k, was, want...)
	}
	for _, tail := range [][]byte{
		{0}, {1, 0}, {3, 0, 0, 0}, {4, 0, 0, 0, 1}, // fewer bytes than a sum, and a sum that is another one
		{0x80, 0x05}, {0x80, 0x04, 0, 0, 0, 0}, // a number in another form
		{0xd0, 0x04, 0x00, 0x05}, {0xff, 0xff, 0xff, 0xff, 0xff, 0xff, 0xff, 0xff, 0xff}, {0xff}, // numbers beyond all
		coder.Text(nil, "12341234"),
	} {
		was := blank(10)
		say(was, 1, 1, 3)
		lay(was, 6, 0, 3, append(bytes.Clone(whole), append(tail, part(a)...)...))
		finds(t, tail, was, snap, a)
		was = blank(10)
		say(was, 1, 1, 3)
		lay(was, 6, 0, 3, append(tail, whole...))
		finds(t, tail, was)
	}
	was := blank(8)
	say(was, 0, 0, 3)
	finds(t, "no page", was)
	was[2] = leaf(1, 3, 0, nil)
	finds(t, "no byte", was)
	lay(was, 2, 0, 3, part(nil))
	finds(t, "no byte of a snapshot", was, []byte{})
}

// P11.1: the greatest log that has room.
func TestGreat(t *testing.T) {
	d := device(t, 4096)
	snap := some(1, 113*2047-7)
	l := format(t, d, snap)
	for range 3 {
		holds(t, "great", l, 0, snap)
		refused(t, "great", appendError(l, 1), api.EFULL)
		l = open(t, "great", d)
	}
	ok(t, "Save", l.Save(snap[1:]))
	holds(t, "saved", open(t, "saved", d), 0, snap[1:])
	refused(t, "one more", l.Save(append(snap, 1)), api.EFULL)
}

// whole tells whether a page is whole.
func whole(b []byte) bool {
	return bytes.Equal(b[:4], b[124:]) && binary.BigEndian.Uint32(b[4:]) > 0 && b[10] <= 113
}

// found is what the chapter says that Open finds; none: nothing.
func found(l [][]byte) [][]byte {
	if len(l) < 8 {
		return nil
	}
	slot, top := 0, uint32(0)
	for i, b := range l[:2] {
		if whole(b) && b[10] == 1 && b[11] < 2 && binary.BigEndian.Uint32(b[4:]) > top {
			slot, top = i, binary.BigEndian.Uint32(b[4:])
		}
	}
	if top == 0 {
		return nil
	}
	h := (len(l) - 2) / 2
	var all []byte
	for i := range h {
		b := l[2+int(l[slot][11])*h+i]
		if !whole(b) || binary.BigEndian.Uint32(b[4:]) != top || int(b[8])<<8+int(b[9]) != i {
			break
		}
		all = append(all, b[11:11+b[10]]...)
	}
	var out [][]byte
	for len(all) >= 5 && all[0] >= 4 && all[0] < 128 && len(all) > int(all[0]) { // all texts of these tests are short
		x := all[5 : 1+int(all[0])]
		if !bytes.Equal(part(x), all[:1+int(all[0])]) {
			break
		}
		out = append(out, x)
		all = all[1+int(all[0]):]
	}
	return out
}

// wild is an image of pages that may be any, many of them whole.
func wild(rnd *rand.Rand, n int, top uint32) [][]byte {
	l := blank(n)
	h := (n - 2) / 2
	half, epoch := rnd.Intn(2), 1+uint32(rnd.Int63n(int64(top)))
	for i := range l {
		index := i - 2 - half*h
		if rnd.Intn(8) == 0 {
			index = rnd.Intn(4)
		}
		var has []byte
		for rnd.Intn(5) > 0 {
			x := part(some(byte(rnd.Intn(256)), 1+rnd.Intn(30)))
			if rnd.Intn(12) == 0 {
				x = x[:rnd.Intn(len(x))]
			}
			has = append(has, x...)
		}
		if i < 2 {
			index, has = 0, []byte{byte(half)}
			if rnd.Intn(8) == 0 {
				has[0] = byte(rnd.Intn(4))
			}
		}
		l[i] = leaf(rnd.Uint32(), epoch, max(index, 0), has[:min(len(has), 113)])
		switch rnd.Intn(12) {
		case 0:
			rnd.Read(l[i])
		case 1:
			if at := rnd.Intn(128); i >= 2 || at < 8 || at > 9 {
				l[i][at]++
			}
		case 2:
			binary.BigEndian.PutUint32(l[i][4:], 1+uint32(rnd.Int63n(int64(top))))
		}
	}
	return l
}

// P11.5: whatever stands on a device, Open ends; what it finds is found again, and nothing else.
func TestAny(t *testing.T) {
	rnd := rand.New(rand.NewSource(113))
	had := 0
	for k := range 6000 {
		top := []uint32{3, 300, 1<<31 + 100, 0xFFFFFFFF}[k%4]
		was := wild(rnd, 1+rnd.Intn(20), top)
		d := drawn(t, was)
		want := found(was)
		if len(want) == 0 {
			finds(t, k, was)
			continue
		}
		l, e := journal.Open(d)
		if e == api.EOVER { // whatever it found: nothing was written
			if l != nil {
				t.Fatal("a log with an error")
			}
			looks(t, k, d, was)
			continue
		}
		ok(t, k, e)
		holds(t, k, l, len(want)-1, want[0], want[1:]...)
		had++
		again, e := journal.Open(d)
		if e == api.EOVER {
			continue
		}
		ok(t, k, e)
		holds(t, k, again, len(want)-1, want[0], want[1:]...)
		add(t, again, some(1, 3))
		ok(t, "Sync", again.Sync())
		holds(t, k, again, len(want), want[0], append(want[1:], some(1, 3))...)
		if third, e := journal.Open(d); e != api.EOVER {
			ok(t, k, e)
			holds(t, k, third, len(want), want[0], append(want[1:], some(1, 3))...)
		}
	}
	if had < 1000 {
		t.Fatalf("just %d devices had a log", had)
	}
}

// P11.5: bytes without any order.
func TestNoise(t *testing.T) {
	rnd := rand.New(rand.NewSource(114))
	for k := range 500 {
		was := noise(rnd, 8+rnd.Intn(9), 0xFFFFFFFF)
		finds(t, k, was)
		// With a slot that is whole, too.
		slot := rnd.Intn(2)
		was[slot] = leaf(rnd.Uint32(), binary.BigEndian.Uint32(was[2][4:])|1, 0, []byte{byte(rnd.Intn(2))})
		finds(t, k, was)
	}
}
