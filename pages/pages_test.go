package pages_test

import (
	"bytes"
	"math"
	"slices"
	"testing"

	"scholia/api"
	"scholia/pages"
)

// far: numbers of no page, and sizes of no device.
var far = []int{math.MinInt, math.MinInt + 1, -1 << 32, -4096, -128, -1, 4097, 1 << 16, 1 << 31, 1 << 32, 1<<32 + 1, 1 << 62, math.MaxInt - 1, math.MaxInt}

// device is one of so many pages.
func device(t *testing.T, n int) *pages.Disk {
	t.Helper()
	d, e := pages.New(n)
	if d == nil || e != api.OK {
		t.Fatalf("no device of %d pages, error %d", n, e)
	}
	return d
}

// full is the bytes of a page that has some: these, and noughts behind them.
func full(s string) []byte {
	return append([]byte(s), make([]byte, 128-len(s))...)
}

// many is so many bytes of one kind.
func many(c byte, n int) string {
	return string(bytes.Repeat([]byte{c}, n))
}

// ok tells whether a call went well.
func ok(t *testing.T, what any, e api.Errno) {
	t.Helper()
	if e != api.OK {
		t.Fatalf("%v: error %d", what, e)
	}
}

// refused tells whether a call told an error.
func refused(t *testing.T, what any, got, want api.Errno) {
	t.Helper()
	if got != want {
		t.Fatalf("%v: error %d, not %d", what, got, want)
	}
}

// write writes a page, and syncs if it is asked to.
func write(t *testing.T, d *pages.Disk, i int, s string, sync bool) {
	t.Helper()
	ok(t, "Write", d.Write(i, []byte(s)))
	if sync {
		ok(t, "Sync", d.Sync())
	}
}

// holds tells whether a device that lives has just these pages, and these are loose.
func holds(t *testing.T, what any, d *pages.Disk, loose []int, has ...string) {
	t.Helper()
	for range 2 { // to ask is to change nothing
		if d.Size() != len(has) || d.Dead() {
			t.Fatalf("%v: %d pages, dead %v; not %d", what, d.Size(), d.Dead(), len(has))
		}
		for i, s := range has {
			b, e := d.Read(i)
			if e != api.OK || !bytes.Equal(b, full(s)) {
				t.Fatalf("%v: page %d has %x, error %d; not %x", what, i, b, e, s)
			}
		}
		if l := d.Loose(); !slices.Equal(l, loose) {
			t.Fatalf("%v: %v are loose, not %v", what, l, loose)
		}
	}
}

// P10.1
func TestNew(t *testing.T) {
	for _, n := range []int{1, 2, 3, 8, 128, 4095, 4096} {
		d := device(t, n)
		holds(t, n, d, nil, make([]string, n)...)
		for _, i := range append([]int{n}, far...) {
			b, e := d.Read(i)
			refused(t, i, e, api.EARG)
			refused(t, i, d.Write(i, nil), api.EARG)
			if b != nil {
				t.Fatalf("of %d: page %d has %x", n, i, b)
			}
		}
		write(t, d, n-1, "last", false)
		b, _ := d.Read(n - 1)
		if !bytes.Equal(b, full("last")) {
			t.Fatalf("of %d: the last page has %x", n, b)
		}
	}
	for _, n := range append([]int{0}, far...) {
		if d, e := pages.New(n); d != nil || e != api.EARG {
			t.Errorf("a device of %d, error %d", n, e)
		}
	}
}

// P10.1: a page has what was written last, and noughts behind it.
func TestWrite(t *testing.T) {
	d := device(t, 4)
	for _, c := range []string{"a", "", many(255, 128), "b", many(7, 127), many(9, 1), many(0, 128), "\x00\x01", many(1, 64)} {
		write(t, d, 2, c, false)
		holds(t, c, d, []int{2}, "", "", c, "")
	}
	write(t, d, 0, "first", false)
	write(t, d, 3, "last", false)
	holds(t, "more", d, []int{0, 2, 3}, "first", "", many(1, 64), "last")
	ok(t, "of nil", d.Write(2, nil))
	holds(t, "of nil", d, []int{0, 2, 3}, "first", "", "", "last")
}

// P10.1: what may not be written changes nothing.
func TestWriteErrors(t *testing.T) {
	d := device(t, 3)
	write(t, d, 0, "a", true)
	write(t, d, 1, "b", false)
	for _, n := range []int{129, 130, 256, 1 << 16} {
		for i := range 3 {
			refused(t, n, d.Write(i, make([]byte, n)), api.EARG)
		}
	}
	for _, i := range append([]int{3, 4, 128}, far...) {
		refused(t, i, d.Write(i, []byte("x")), api.EARG)
		refused(t, i, d.Write(i, nil), api.EARG)
		refused(t, i, d.Write(i, make([]byte, 129)), api.EARG)
		b, e := d.Read(i)
		refused(t, i, e, api.EARG)
		if b != nil {
			t.Errorf("page %d has %x", i, b)
		}
	}
	holds(t, "refused", d, []int{1}, "a", "b", "")
}

// P10.1: the loose pages are those that were written since the last sync, each once, rising.
func TestLoose(t *testing.T) {
	d := device(t, 300)
	var want []int
	for k := range 300 {
		i := k * 7 % 300
		write(t, d, i, "", false) // also a page that has the same as ahead
		write(t, d, i, "x", false)
		want = append(want, i)
		slices.Sort(want)
		if l := d.Loose(); !slices.Equal(l, want) {
			t.Fatalf("behind %d: %v, not %v", i, l, want)
		}
	}
	ok(t, "Sync", d.Sync())
	if l := d.Loose(); len(l) != 0 {
		t.Fatalf("synced: %v", l)
	}
	write(t, d, 299, "x", false)
	write(t, d, 0, "x", false)
	if l := d.Loose(); !slices.Equal(l, []int{0, 299}) {
		t.Fatalf("written again: %v", l)
	}
	ok(t, "Crash", d.Crash([]int{0}, 299, 3))
	if l := d.Loose(); len(l) != 0 {
		t.Fatalf("behind a crash: %v", l)
	}
}

// P10.2: a clone has the pages, what they had, the fuse, and is dead or not; it goes its own way.
func TestClone(t *testing.T) {
	d := device(t, 3)
	write(t, d, 0, "a", true)
	write(t, d, 0, "b", false)
	write(t, d, 1, "c", false)
	c := d.Clone()
	holds(t, "cloned", c, []int{0, 1}, "b", "c", "")

	write(t, c, 2, "z", false)
	write(t, c, 0, "y", false)
	holds(t, "the first", d, []int{0, 1}, "b", "c", "")
	write(t, d, 1, "x", true)
	holds(t, "the clone", c, []int{0, 1, 2}, "y", "c", "z")
	holds(t, "the first, synced", d, nil, "b", "x", "")
	ok(t, "Crash", c.Crash(nil, -1, 0))
	holds(t, "the clone, crashed", c, nil, "a", "", "")
	holds(t, "the first, still", d, nil, "b", "x", "")

	ok(t, "Fuse", d.Fuse(1))
	c = d.Clone()
	write(t, d, 0, "d", false)
	refused(t, "the first's fuse", d.Sync(), api.EDEAD)
	write(t, c, 2, "e", false)
	holds(t, "the clone's fuse", c, []int{2}, "b", "x", "e")
	refused(t, "the clone's fuse", c.Write(2, nil), api.EDEAD)
	c = d.Clone()
	if !c.Dead() || !d.Dead() || c.Size() != 3 || !slices.Equal(c.Loose(), []int{0}) {
		t.Fatalf("of a dead one: dead %v, %d pages, loose %v", c.Dead(), c.Size(), c.Loose())
	}
	ok(t, "Crash", c.Crash([]int{0}, -1, 0))
	holds(t, "the clone lives", c, nil, "d", "x", "")
	if !d.Dead() {
		t.Error("the first lives with it")
	}
	ok(t, "Crash", d.Crash(nil, -1, 0))
	holds(t, "the first lives", d, nil, "b", "x", "")
}

// P10.2: a device that New did not make.
func TestNoDisk(t *testing.T) {
	none, _ := pages.New(0)
	for _, d := range []*pages.Disk{nil, {}, new(pages.Disk), none} {
		for range 2 {
			for _, i := range append([]int{0, 1}, far...) {
				refused(t, "Write", d.Write(i, []byte("a")), api.ENIL)
				refused(t, "Write of much", d.Write(i, make([]byte, 200)), api.ENIL)
				b, e := d.Read(i)
				refused(t, "Read", e, api.ENIL)
				refused(t, "Fuse", d.Fuse(i), api.ENIL)
				refused(t, "Crash", d.Crash([]int{i}, i, i), api.ENIL)
				if b != nil {
					t.Fatalf("page %d has %x", i, b)
				}
			}
			refused(t, "Sync", d.Sync(), api.ENIL)
			refused(t, "Crash", d.Crash(nil, 0, 0), api.ENIL)
			if d.Size() != 0 || len(d.Loose()) != 0 || d.Dead() || d.Clone() != nil {
				t.Fatalf("%d pages, loose %v, dead %v, clone %v", d.Size(), d.Loose(), d.Dead(), d.Clone())
			}
		}
	}
}

// spoil turns all bytes of a list, and of the room behind it.
func spoil(b []byte) {
	b = b[:cap(b)]
	for i := range b {
		b[i] ^= 255
	}
}

// P10.1: what is handed in or out is not the device's.
func TestMemory(t *testing.T) {
	d := device(t, 3)
	lot := []byte("abcdefgh")
	in := lot[:3]
	ok(t, "Write", d.Write(1, in))
	if string(lot) != "abcdefgh" {
		t.Fatalf("what was handed in is %s", lot)
	}
	spoil(in)
	holds(t, "written", d, []int{1}, "", "abc", "")
	whole := bytes.Repeat([]byte{5}, 128)
	ok(t, "Write", d.Write(2, whole))
	spoil(whole)
	holds(t, "written whole", d, []int{1, 2}, "", "abc", many(5, 128))

	first, _ := d.Read(1)
	second, _ := d.Read(1)
	spoil(first)
	if !bytes.Equal(second, full("abc")) {
		t.Fatal("two answers share memory")
	}
	holds(t, "read", d, []int{1, 2}, "", "abc", many(5, 128))
	write(t, d, 1, "z", false)
	if !bytes.Equal(second, full("abc")) {
		t.Fatal("an answer was changed by a later call")
	}

	l, again := d.Loose(), d.Loose()
	l = l[:cap(l)]
	for i := range l {
		l[i] = 77
	}
	if !slices.Equal(again, []int{1, 2}) {
		t.Fatal("two lists of loose pages share memory")
	}
	holds(t, "told", d, []int{1, 2}, "", "z", many(5, 128))

	room := []int{2, 1, 9, 1, 0}
	ok(t, "Crash", d.Crash(room[:1], 1, 64))
	if !slices.Equal(room, []int{2, 1, 9, 1, 0}) {
		t.Fatalf("the pages that are kept became %v", room)
	}
	room[0] = 1
	holds(t, "crashed", d, nil, "", "z", many(5, 128))
}
