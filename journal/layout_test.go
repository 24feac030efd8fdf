package journal_test

import (
	"bytes"
	"encoding/binary"
	"math/rand"
	"slices"
	"testing"

	"scholia/api"
	"scholia/journal"
	"scholia/pages"
)

// P11.1: a snapshot on pages that have nothing: byte by byte.
func TestFormat(t *testing.T) {
	for _, n := range []int{8, 9, 10, 11, 63, 200, 4095, 4096} {
		h := (n - 2) / 2
		for _, size := range []int{0, 1, 2, 108, 109, 110, 120, 121, 122, 123, 124, 220, 221, 222, 113*h - 7, 113*h - 6, 113*h - 5} {
			snap := some(byte(n), size)
			b := part(snap)
			d := device(t, n)
			l, e := journal.Format(d, snap)
			if len(b) > 113*h {
				refused(t, size, e, api.EFULL)
				if l != nil {
					t.Fatalf("a log of %d bytes in %d pages", len(b), h)
				}
				looks(t, "refused", d, blank(n))
				continue
			}
			ok(t, size, e)
			holds(t, size, l, 0, snap)
			want := blank(n)
			lay(want, 2, 0, 1, b)
			say(want, 0, 0, 1)
			looks(t, size, d, want)
		}
	}
}

// P11.1: whatever is there, a log is laid into the half 0, and said by the slot 0; the epochs of both slots and of that half count, of whole pages and of others, and no other ones.
func TestFormatOver(t *testing.T) {
	rnd := rand.New(rand.NewSource(111))
	for _, n := range []int{8, 9, 12, 13} {
		h := (n - 2) / 2
		for _, high := range []int{0, 1, 2, 2 + h - 1} {
			for _, epoch := range []uint32{1, 7, 255, 256, 0xFFFF, 1 << 24, 1<<31 - 2} {
				for _, whole := range []bool{false, true} {
					was := noise(rnd, n, epoch)
					for i := 2 + h; i < n; i++ {
						was[i] = leaf(rnd.Uint32(), 0xFFFFFFFF, i, some(9, 50))
					}
					was[high] = leaf(0xFFFFFFFE, epoch, 0, []byte{1})
					if !whole {
						was[high][3]++
					}
					d := drawn(t, was)
					snap := some(3, 200)
					l := format(t, d, snap)
					holds(t, epoch, l, 0, snap)
					lay(was, 2, 0, epoch+1, part(snap))
					say(was, 0, 0, epoch+1)
					looks(t, epoch, d, was)
				}
			}
		}
	}
}

// P11.1: a log takes the place of another one, wherever that lies, and of what is not synced.
func TestFormatAgain(t *testing.T) {
	d := device(t, 10)
	l := format(t, d, some(1, 300))
	add(t, l, some(2, 20))
	ok(t, "Sync", l.Sync())
	for range 2 {
		ok(t, "Save", l.Save(some(3, 150)))
		add(t, l, some(4, 30))
		want := image(t, d)
		l = format(t, d, some(5, 10))
		holds(t, "again", l, 0, some(5, 10))
		top := uint32(0)
		for _, i := range []int{0, 1, 2, 3, 4, 5} {
			top = max(top, binary.BigEndian.Uint32(want[i][4:]))
		}
		lay(want, 2, 0, top+1, part(some(5, 10)))
		say(want, 0, 0, top+1)
		looks(t, "again", d, want)
		holds(t, "opened", open(t, "again", d.Clone()), 0, some(5, 10))
	}
}

// P11.1
func TestFormatErrors(t *testing.T) {
	for _, d := range []*pages.Disk{nil, {}} {
		for _, size := range []int{0, 1, limit + 1} {
			l, e := journal.Format(d, make([]byte, size))
			refused(t, "no device", e, api.ENIL)
			if l != nil {
				t.Fatal("a log on no device")
			}
		}
	}
	for n := 1; n < 8; n++ {
		d := device(t, n)
		for _, size := range []int{0, 1, 113, 1000, limit, limit + 1} {
			l, e := journal.Format(d, make([]byte, size))
			refused(t, n, e, api.EARG)
			if l != nil {
				t.Fatalf("a log on %d pages", n)
			}
		}
		looks(t, n, d, blank(n))
	}
	for _, n := range []int{8, 4096} {
		d := device(t, n)
		for size, want := range map[int]api.Errno{limit: api.EFULL, limit + 1: api.EARG, 1 << 20: api.EARG} {
			l, e := journal.Format(d, make([]byte, size))
			refused(t, size, e, want)
			if l != nil {
				t.Fatalf("a log of %d bytes", size)
			}
		}
		looks(t, n, d, blank(n))
	}
	d := device(t, 8)
	ok(t, "Fuse", d.Fuse(0))
	refused(t, "Sync", d.Sync(), api.EDEAD)
	l, e := journal.Format(d, nil)
	refused(t, "dead", e, api.EDEAD)
	if l != nil {
		t.Fatal("a log on a dead device")
	}
	_, e = journal.Format(d, make([]byte, limit+1))
	refused(t, "dead, and much", e, api.EARG)
}

// P11.1: EFULL stands ahead of EOVER; epochs of 2^31 and more are none of a log.
func TestFormatOver31(t *testing.T) {
	for _, i := range []int{0, 1, 2, 4} {
		for _, epoch := range []uint32{1 << 31, 1<<31 + 1, 0xFFFFFFFE, 0xFFFFFFFF} {
			for _, head := range []uint32{6, 7} {
				was := blank(8)
				was[i] = leaf(7, epoch, 0, []byte{0})
				binary.BigEndian.PutUint32(was[i], head)
				d := drawn(t, was)
				l, e := journal.Format(d, some(1, 333))
				refused(t, epoch, e, api.EOVER)
				if l != nil {
					t.Fatal("a log beyond the epochs")
				}
				_, e = journal.Format(d, some(1, 334))
				refused(t, epoch, e, api.EFULL)
				looks(t, epoch, d, was)
			}
		}
	}
}

// P11.1: the greatest epoch is 2^31 - 1.
func TestLastEpoch(t *testing.T) {
	was := blank(8)
	was[3] = leaf(7, 1<<31-2, 0, nil)
	d := drawn(t, was)
	l := format(t, d, nil)
	lay(was, 2, 0, 1<<31-1, part(nil))
	say(was, 0, 0, 1<<31-1)
	looks(t, "last", d, was)
	add(t, l, some(1, 5))
	ok(t, "Sync", l.Sync())
	was = image(t, d)
	refused(t, "Save", l.Save(nil), api.EOVER)
	_, e := journal.Open(d)
	refused(t, "Open", e, api.EOVER)
	_, e = journal.Format(d, nil)
	refused(t, "Format", e, api.EOVER)
	looks(t, "refused", d, was)
}

// P11.1: at each act the power goes: pages first, then Sync, the slot, Sync.
func TestFormatActs(t *testing.T) {
	for _, size := range []int{0, 108, 109, 321} {
		b := part(some(1, size))
		n := (len(b) + 112) / 113
		for fuse := range n + 3 {
			d := device(t, 9)
			ok(t, "Fuse", d.Fuse(fuse))
			l, e := journal.Format(d, some(1, size))
			refused(t, fuse, e, api.EDEAD)
			if l != nil || !d.Dead() {
				t.Fatalf("behind %d acts: a log, or a device that lives", fuse)
			}
			want := blank(9)
			lay(want, 2, 0, 1, b[:min(len(b), 113*fuse)])
			var loose []int
			for i := range min(fuse, n) {
				loose = append(loose, 2+i)
			}
			if fuse > n {
				loose = nil
			}
			if fuse == n+2 {
				say(want, 0, 0, 1)
				loose = []int{0}
			}
			if got := d.Loose(); !slices.Equal(got, loose) {
				t.Fatalf("behind %d acts %v are loose, not %v", fuse, got, loose)
			}
			ok(t, "Crash", d.Crash(loose, -1, 0))
			looks(t, fuse, d, want)
		}
		d := device(t, 9)
		ok(t, "Fuse", d.Fuse(n+3))
		holds(t, "all acts", format(t, d, some(1, size)), 0, some(1, size))
		refused(t, "one more", d.Sync(), api.EDEAD)
	}
}

// P11.2: records stand behind one another; a page is written as soon as it has bytes, and no more behind a sync.
func TestAppend(t *testing.T) {
	d := device(t, 20) // nine pages a half
	l := format(t, d, some(0, 120))
	want := image(t, d)
	// Two pages have the snapshot; the next byte goes to the third one.
	step := func(what string, loose []int, changed map[int][]byte) {
		t.Helper()
		for i, b := range changed {
			want[i] = leaf(stamp(want[i])+1, 1, i-2, b)
		}
		looks(t, what, d, want, loose...)
	}
	a, b, c, g, h := some(1, 1), some(2, 50), some(3, 40), some(4, 200), some(5, 7)
	add(t, l, a)
	step("a", []int{4}, map[int][]byte{4: part(a)})
	holds(t, "a", l, 0, some(0, 120), a)
	add(t, l, b)
	step("b", []int{4}, map[int][]byte{4: parts(a, b)})
	add(t, l, c) // 6, 55 and 45 bytes
	step("c", []int{4}, map[int][]byte{4: parts(a, b, c)})
	all := parts(a, b, c, g)
	add(t, l, g)
	step("g", []int{4, 5, 6}, map[int][]byte{4: all[:113], 5: all[113:226], 6: all[226:]})
	holds(t, "g", l, 0, some(0, 120), a, b, c, g)
	ok(t, "Sync", l.Sync())
	step("synced", nil, nil)
	holds(t, "synced", l, 4, some(0, 120), a, b, c, g)
	ok(t, "Sync", l.Sync())
	add(t, l, h)
	step("h", []int{7}, map[int][]byte{7: part(h)})
	holds(t, "h", l, 4, some(0, 120), a, b, c, g, h)
	ok(t, "Sync", l.Sync())
	full := some(6, 108) // just a page
	add(t, l, full)
	step("full", []int{8}, map[int][]byte{8: part(full)})
	add(t, l, a)
	step("behind a full one", []int{8, 9}, map[int][]byte{9: part(a)})
	ok(t, "Sync", l.Sync())
	add(t, l, full)
	ok(t, "Sync", l.Sync()) // the page is full: none is left out
	step("full, synced", nil, map[int][]byte{10: part(full)})
	holds(t, "all", l, 8, some(0, 120), a, b, c, g, h, full, a, full)
	refused(t, "full", full10(l), api.EFULL)
	step("refused", nil, nil)
	holds(t, "refused", l, 8, some(0, 120), a, b, c, g, h, full, a, full)
}

// full10 is the error of one record more.
func full10(l *journal.Log) api.Errno {
	n, e := l.Append([]byte{1})
	if n != 0 {
		return -1
	}
	return e
}

// P11.2: how many bytes are left, to the last one.
func TestAppendFull(t *testing.T) {
	for _, c := range []struct {
		ahead [][]byte
		sync  bool
		left  int // on two pages
	}{
		{nil, false, 226},
		{nil, true, 226},
		{[][]byte{some(1, 1)}, false, 220},
		{[][]byte{some(1, 1)}, true, 113},
		{[][]byte{some(1, 108)}, false, 113},
		{[][]byte{some(1, 108)}, true, 113},
		{[][]byte{some(1, 109)}, false, 112},
		{[][]byte{some(1, 109)}, true, 0},
		{[][]byte{some(1, 108), some(2, 107)}, false, 1},
		{[][]byte{some(1, 108), some(2, 108)}, false, 0},
		{[][]byte{some(1, 108), some(2, 108)}, true, 0},
		{[][]byte{some(1, 220)}, false, 0},
	} {
		d := device(t, 8)
		l := format(t, d, some(0, 10))
		add(t, l, c.ahead...)
		sure := 0
		if c.sync {
			ok(t, "Sync", l.Sync())
			sure = len(c.ahead)
		}
		was, loose := image(t, d), d.Loose()
		fits := 0
		for size := 240; size > 0; size-- {
			b := some(7, size)
			if len(part(b)) <= c.left {
				fits = size
				break
			}
			n, e := l.Append(b)
			refused(t, size, e, api.EFULL)
			if n != 0 {
				t.Fatalf("%d records with an error", n)
			}
		}
		refused(t, "the greatest", appendError(l, limit), api.EFULL)
		refused(t, "beyond", appendError(l, limit+1), api.EARG)
		looks(t, c.left, d, was, loose...)
		holds(t, c.left, l, sure, some(0, 10), c.ahead...)
		if fits > 0 {
			add(t, l, some(7, fits))
			refused(t, "beyond", appendError(l, limit+1), api.EARG)
			holds(t, c.left, l, sure, some(0, 10), append(slices.Clone(c.ahead), some(7, fits))...)
			holds(t, c.left, open(t, c.left, d.Clone()), len(c.ahead)+1, some(0, 10), append(slices.Clone(c.ahead), some(7, fits))...)
		}
		holds(t, c.left, open(t, c.left, drawn(t, was)), len(c.ahead), some(0, 10), c.ahead...)
	}
}

// appendError is the error of a record of so many bytes.
func appendError(l *journal.Log, size int) api.Errno {
	_, e := l.Append(make([]byte, size))
	return e
}

// P11.2: what is refused changes nothing.
func TestAppendErrors(t *testing.T) {
	d := device(t, 4096)
	l := format(t, d, nil)
	add(t, l, some(1, 30))
	was := image(t, d)
	for _, b := range [][]byte{nil, {}, make([]byte, 0, 9), make([]byte, limit+1), make([]byte, 1<<20)} {
		n, e := l.Append(b)
		refused(t, len(b), e, api.EARG)
		if n != 0 {
			t.Fatalf("%d records with an error", n)
		}
	}
	refused(t, "the greatest", appendError(l, limit), api.EFULL)
	looks(t, "refused", d, was, 3)
	holds(t, "refused", l, 0, nil, some(1, 30))
	refused(t, "as many as there are", appendError(l, 113*2046-35-7), api.OK)
	refused(t, "one more", appendError(l, 1), api.EFULL)
	got := open(t, "full", d).Records()
	if len(got) != 2 || len(got[1]) != 113*2046-35-7 {
		t.Fatalf("%d records were found", len(got))
	}
}

// P11.2: snapshots go to and fro between the halves and the slots.
func TestSave(t *testing.T) {
	for _, n := range []int{8, 9, 20} {
		h := (n - 2) / 2
		d := device(t, n)
		l := format(t, d, some(1, 100))
		want := image(t, d)
		for k := range 7 {
			half := (k + 1) % 2
			add(t, l, some(2, 30), some(3, 10))
			if k%3 == 0 {
				ok(t, "Sync", l.Sync())
			}
			want = image(t, d)
			snap := some(byte(k), 60*k%150)
			ok(t, "Save", l.Save(snap))
			lay(want, 2+half*h, 0, uint32(k+2), part(snap))
			say(want, half, half, uint32(k+2))
			looks(t, k, d, want)
			holds(t, k, l, 0, snap)
			holds(t, k, open(t, k, d.Clone()), 0, snap)
		}
	}
}

// P11.2: the epochs of the half's pages count, whole or not; a stamp begins anew behind the greatest one.
func TestSaveOver(t *testing.T) {
	rnd := rand.New(rand.NewSource(112))
	for _, high := range []int{5, 6, 7} {
		for _, head := range []uint32{0xFFFFFFFF, 3} {
			was := noise(rnd, 8, 900)
			was[high] = leaf(0xFFFFFFFF, 1000, 0, nil)
			binary.BigEndian.PutUint32(was[high], head)
			d := drawn(t, was)
			l := format(t, d, nil)
			want := image(t, d)
			snap := some(1, 333)
			ok(t, "Save", l.Save(snap))
			lay(want, 5, 0, 1001, part(snap))
			say(want, 1, 1, 1001)
			looks(t, high, d, want)
			if stamp(want[high]) != 0 {
				t.Fatalf("the stamp is %x", stamp(want[high]))
			}
		}
	}
}

// P11.2: a snapshot that is refused changes nothing, and the log goes on.
func TestSaveErrors(t *testing.T) {
	for _, epoch := range []uint32{1, 1 << 31, 0xFFFFFFFF} {
		was := blank(8)
		was[7] = leaf(4, epoch, 0, nil)
		was[7][0] = 1 // not whole
		d := drawn(t, was)
		l := format(t, d, some(1, 10))
		add(t, l, some(2, 10))
		ok(t, "Sync", l.Sync())
		add(t, l, some(3, 10))
		was = image(t, d)
		refused(t, "beyond", l.Save(make([]byte, limit+1)), api.EARG)
		refused(t, "the greatest", l.Save(make([]byte, limit)), api.EFULL)
		refused(t, "one too many", l.Save(some(4, 334)), api.EFULL)
		if epoch > 1 {
			refused(t, epoch, l.Save(nil), api.EOVER)
			refused(t, epoch, l.Save(some(4, 333)), api.EOVER)
			_, e := journal.Open(d.Clone())
			refused(t, epoch, e, api.EOVER)
		}
		looks(t, epoch, d, was, 4)
		holds(t, epoch, l, 1, some(1, 10), some(2, 10), some(3, 10))
		add(t, l, some(5, 10))
		ok(t, "Sync", l.Sync())
		holds(t, epoch, l, 3, some(1, 10), some(2, 10), some(3, 10), some(5, 10))
		if epoch == 1 {
			ok(t, "just so many", l.Save(some(4, 333)))
			holds(t, epoch, l, 0, some(4, 333))
		}
	}
}

// P11.1: what is opened is laid into the other half, its records too, and said by the other slot; where it lay nothing is touched.
func TestOpen(t *testing.T) {
	for _, size := range []int{0, 100, 230} {
		records := [][]byte{some(2, 30), some(3, 108), some(4, 1)}
		d := device(t, 24)
		l := format(t, d, some(1, size))
		add(t, l, records[:2]...)
		ok(t, "Sync", l.Sync())
		add(t, l, records[2])
		for k := range 4 {
			ahead := image(t, d)
			l = open(t, k, d)
			holds(t, k, l, 3, some(1, size), records...)
			half := (k + 1) % 2
			lay(ahead, 2+11*half, 0, uint32(k+2), parts(append([][]byte{some(1, size)}, records...)...))
			say(ahead, half, half, uint32(k+2))
			got := image(t, d)
			for i := range got { // the stamps aside
				if stamp(got[i]) != binary.BigEndian.Uint32(got[i]) || !bytes.Equal(got[i][4:124], ahead[i][4:124]) {
					t.Fatalf("page %d has\n%x, not\n%x", i, got[i], ahead[i])
				}
				if (i < 2 && i != half || i >= 2 && (i-2)/11 != half) && !bytes.Equal(got[i], ahead[i]) {
					t.Fatalf("page %d was written", i)
				}
			}
			if len(d.Loose()) != 0 {
				t.Fatalf("%v are loose", d.Loose())
			}
		}
		add(t, l, some(5, 9))
		ok(t, "Sync", l.Sync())
		l = open(t, "at last", d)
		holds(t, "at last", l, 4, some(1, size), append(records, some(5, 9))...)
		ok(t, "Save", l.Save(some(6, 40)))
		holds(t, "saved", open(t, "saved", d), 0, some(6, 40))
	}
}

// P11.1
func TestOpenErrors(t *testing.T) {
	none := func(what any, d *pages.Disk, want api.Errno) {
		t.Helper()
		l, e := journal.Open(d)
		refused(t, what, e, want)
		if l != nil {
			t.Fatalf("%v: a log", what)
		}
	}
	none("nil", nil, api.ENIL)
	none("plain", &pages.Disk{}, api.ENIL)
	for _, n := range []int{1, 2, 3, 7, 8, 9, 4096} {
		d := device(t, n)
		none(n, d, api.EFORM)
		looks(t, n, d, blank(n))
		ok(t, "Fuse", d.Fuse(0))
		refused(t, "Sync", d.Sync(), api.EDEAD)
		none("dead", d, api.EDEAD)
	}
	// A log that is whole, but on too few pages: two a half.
	was := blank(7)
	say(was, 0, 0, 1)
	lay(was, 2, 0, 1, part(nil))
	none("few pages", drawn(t, was), api.EFORM)

	d := device(t, 8)
	l := format(t, d, nil)
	ok(t, "Fuse", d.Fuse(0))
	refused(t, "Sync", l.Sync(), api.EDEAD)
	none("dead", d, api.EDEAD)
}
