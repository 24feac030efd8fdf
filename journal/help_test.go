package journal_test

import (
	"bytes"
	"encoding/binary"
	"math/rand"
	"slices"
	"testing"

	"scholia/api"
	"scholia/coder"
	"scholia/frame"
	"scholia/journal"
	"scholia/pages"
)

// limit is how many bytes a snapshot, or a record, may have.
const limit = 1 << 18

// leaf is a page's bytes, as the chapter tells them.
func leaf(stamp, epoch uint32, index int, has []byte) []byte {
	b := binary.BigEndian.AppendUint32(nil, stamp)
	b = binary.BigEndian.AppendUint32(b, epoch)
	b = binary.BigEndian.AppendUint16(b, uint16(index))
	b = append(b, byte(len(has)))
	b = append(b, has...)
	b = append(b, make([]byte, 124-len(b))...)
	return binary.BigEndian.AppendUint32(b, stamp)
}

// part is the bytes of a snapshot or a record.
func part(b []byte) []byte {
	return coder.Text(nil, string(frame.Seal(b)))
}

// parts is the bytes of several.
func parts(l ...[]byte) []byte {
	var b []byte
	for _, x := range l {
		b = append(b, part(x)...)
	}
	return b
}

// some is so many bytes, other ones for each kind.
func some(kind byte, n int) []byte {
	b := make([]byte, n)
	for i := range b {
		b[i] = kind + byte(i*i+i>>3)
	}
	return b
}

// ok tells whether a call went well.
func ok(t *testing.T, what any, e api.Errno) {
	t.Helper()
	if e != api.OK {
		t.Fatalf("%v: error %d", what, e)
	}
}

// refused tells whether a call told an error.
func refused(t *testing.T, what any, got, want api.Errno) {
	t.Helper()
	if got != want {
		t.Fatalf("%v: error %d, not %d", what, got, want)
	}
}

// device is one of so many pages.
func device(t *testing.T, n int) *pages.Disk {
	t.Helper()
	d, e := pages.New(n)
	ok(t, n, e)
	return d
}

// format is a log on a device.
func format(t *testing.T, d *pages.Disk, snap []byte) *journal.Log {
	t.Helper()
	l, e := journal.Format(d, snap)
	ok(t, "Format", e)
	return l
}

// open goes on with a device's log.
func open(t *testing.T, what any, d *pages.Disk) *journal.Log {
	t.Helper()
	l, e := journal.Open(d)
	ok(t, what, e)
	return l
}

// add puts records behind a log's.
func add(t *testing.T, l *journal.Log, records ...[]byte) {
	t.Helper()
	for _, b := range records {
		was := len(l.Records())
		n, e := l.Append(b)
		ok(t, "Append", e)
		if n != was+1 {
			t.Fatalf("%d records behind %d", n, was)
		}
	}
}

// same tells whether two lists of bytes are the same.
func same(a, b [][]byte) bool {
	return slices.EqualFunc(a, b, bytes.Equal)
}

// holds tells whether a log has just a snapshot and records, so many of them sure.
func holds(t *testing.T, what any, l *journal.Log, sure int, snap []byte, records ...[]byte) {
	t.Helper()
	for range 2 { // to ask is to change nothing
		if !bytes.Equal(l.Snapshot(), snap) || !same(l.Records(), records) || l.Sure() != sure {
			t.Fatalf("%v: snapshot %x, records %x, sure %d; not %x, %x, %d", what, l.Snapshot(), l.Records(), l.Sure(), snap, records, sure)
		}
	}
}

// image is all pages of a device.
func image(t *testing.T, d *pages.Disk) [][]byte {
	t.Helper()
	var l [][]byte
	for i := range d.Size() {
		b, e := d.Read(i)
		ok(t, "Read", e)
		l = append(l, b)
	}
	return l
}

// blank is the pages of a device without anything.
func blank(n int) [][]byte {
	l := make([][]byte, n)
	for i := range l {
		l[i] = make([]byte, 128)
	}
	return l
}

// lay puts bytes on pages of an image from one on, as a log has them behind its index; stamps are one above those at the pages' ends.
func lay(l [][]byte, from, index int, epoch uint32, b []byte) {
	for len(b) > 0 {
		n := min(113, len(b))
		l[from+index] = leaf(stamp(l[from+index])+1, epoch, index, b[:n])
		b = b[n:]
		index++
	}
}

// say puts into a slot of an image that a log lies in a half.
func say(l [][]byte, slot, half int, epoch uint32) {
	l[slot] = leaf(stamp(l[slot])+1, epoch, 0, []byte{byte(half)})
}

// stamp is what stands at a page's end.
func stamp(b []byte) uint32 {
	return binary.BigEndian.Uint32(b[124:])
}

// looks tells whether a device has just these pages, and these are loose.
func looks(t *testing.T, what any, d *pages.Disk, want [][]byte, loose ...int) {
	t.Helper()
	for i, b := range image(t, d) {
		if !bytes.Equal(b, want[i]) {
			t.Fatalf("%v: page %d has\n%x, not\n%x", what, i, b, want[i])
		}
	}
	if l := d.Loose(); !slices.Equal(l, loose) {
		t.Fatalf("%v: %v are loose, not %v", what, l, loose)
	}
}

// drawn is a device with these pages, all synced.
func drawn(t *testing.T, l [][]byte) *pages.Disk {
	t.Helper()
	d := device(t, len(l))
	for i, b := range l {
		ok(t, "Write", d.Write(i, b))
	}
	ok(t, "Sync", d.Sync())
	return d
}

// noise is an image of pages of any bytes, of epochs up to one.
func noise(rnd *rand.Rand, n int, epoch uint32) [][]byte {
	l := blank(n)
	for _, b := range l {
		rnd.Read(b)
		binary.BigEndian.PutUint32(b[4:], uint32(rnd.Int63n(int64(epoch)+1)))
	}
	return l
}
