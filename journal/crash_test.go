package journal_test

import (
	"bytes"
	"math"
	"math/rand"
	"slices"
	"testing"

	"scholia/api"
	"scholia/journal"
	"scholia/pages"
)

// P11.2, P11.3: the chapter's example.
func TestExample(t *testing.T) {
	d := device(t, 8)
	l := format(t, d, nil)
	add(t, l, []byte("a"))
	ok(t, "Sync", l.Sync())
	add(t, l, []byte("b"))
	ok(t, "Crash", d.Crash(nil, -1, 0))
	holds(t, "opened", open(t, "opened", d), 1, nil, []byte("a"))
}

// cuts: where a page is torn: about each of its parts.
var cuts = []int{-1, 0, 1, 2, 3, 4, 5, 7, 8, 9, 10, 11, 12, 13, 40, 100, 123, 124, 125, 126, 127, 128, 129}

// crash is a way how power goes.
type crash struct {
	keep      []int
	torn, cut int
}

// crashes is ways how power may go of a device with loose pages: none, all, each alone, all but each, the first ones, each torn.
func crashes(loose []int, cuts ...int) []crash {
	l := []crash{{nil, -1, 0}, {loose, -1, 0}}
	for i, page := range loose {
		others := slices.Delete(slices.Clone(loose), i, i+1)
		l = append(l, crash{[]int{page}, -1, 0}, crash{others, -1, 0}, crash{loose[:i], -1, 0})
		for _, cut := range cuts {
			l = append(l, crash{nil, page, cut}, crash{others, page, cut})
		}
	}
	return l
}

// life is a log, and what it should have.
type life struct {
	disk    *pages.Disk
	log     *journal.Log
	snap    []byte
	records [][]byte
	sure    int
	next    []byte // the snapshot that is being saved; nil: none
}

// born is a life on a new device.
func born(t *testing.T, n int, snap []byte) *life {
	t.Helper()
	d := device(t, n)
	return &life{disk: d, log: format(t, d, snap), snap: snap}
}

// add appends a record.
func (x *life) add(b []byte) api.Errno {
	n, e := x.log.Append(b)
	if e == api.OK {
		x.records = append(x.records, b)
		if n != len(x.records) {
			return -1
		}
	}
	return e
}

// sync syncs.
func (x *life) sync() api.Errno {
	e := x.log.Sync()
	if e == api.OK {
		x.sure = len(x.records)
	}
	return e
}

// save saves a snapshot.
func (x *life) save(snap []byte) api.Errno {
	x.next = snap
	e := x.log.Save(snap)
	if e == api.OK {
		x.snap, x.records, x.sure = snap, nil, 0
	}
	if e != api.EDEAD {
		x.next = nil
	}
	return e
}

// may tells whether a log that is opened behind a crash has what it may have.
func (x *life) may(t *testing.T, what any, l *journal.Log) {
	t.Helper()
	snap, records := l.Snapshot(), l.Records()
	if l.Sure() != len(records) {
		t.Fatalf("%v: of %d records %d are sure", what, len(records), l.Sure())
	}
	if x.next != nil && bytes.Equal(snap, x.next) && len(records) == 0 {
		return
	}
	if !bytes.Equal(snap, x.snap) || len(records) < x.sure || len(records) > len(x.records) || !same(records, x.records[:len(records)]) {
		t.Fatalf("%v: snapshot %x, records %x; of %x, %x, %d are sure", what, snap, records, x.snap, x.records, x.sure)
	}
}

// run does one thing after the other till its device is dead; the size is about how long what is written is.
func (x *life) run(size int) api.Errno {
	for _, step := range []func() api.Errno{
		func() api.Errno { return x.add(some(1, 1+size)) },
		func() api.Errno { return x.add(some(2, 1+size)) },
		x.sync,
		func() api.Errno { return x.add(some(3, 1+2*size)) },
		func() api.Errno { return x.add(some(4, 1)) },
		x.sync,
		func() api.Errno { return x.add(some(5, 3)) },
		func() api.Errno { return x.add(some(6, 108)) },
		func() api.Errno { return x.save(some(7, 2*size)) },
		func() api.Errno { return x.add(some(8, 4)) },
		func() api.Errno { return x.add(some(9, 1+size)) },
		x.sync,
		func() api.Errno { return x.add(some(10, 1+size)) },
		func() api.Errno { return x.save(some(11, size)) },
		func() api.Errno { return x.add(some(12, 1+size)) },
		x.sync,
		func() api.Errno { return x.save([]byte{13}) },
	} {
		if e := step(); e != api.OK {
			return e
		}
	}
	return api.OK
}

// cutOff runs a life until its power goes at each act, and hands on what is there then.
func cutOff(t *testing.T, size int, then func(fuse int, x *life)) {
	t.Helper()
	for fuse := range 200 {
		x := born(t, 40, some(0, size))
		ok(t, "Fuse", x.disk.Fuse(fuse))
		e := x.run(size)
		if e == api.OK {
			if fuse < 20 {
				t.Fatalf("just %d acts", fuse)
			}
			return
		}
		refused(t, fuse, e, api.EDEAD)
		then(fuse, x)
	}
	t.Fatal("there is no end of acts")
}

// P11.2: what a device that goes dead in its midst tells: nothing of the log has changed, and all is refused.
func TestDead(t *testing.T) {
	for _, size := range []int{0, 20, 107, 108, 250} {
		cutOff(t, size, func(fuse int, x *life) {
			for range 2 {
				holds(t, fuse, x.log, x.sure, x.snap, x.records...)
				for _, b := range [][]byte{nil, {1}, make([]byte, 4000), make([]byte, limit+1)} {
					n, e := x.log.Append(b)
					refused(t, "Append", e, api.EDEAD)
					refused(t, "Save", x.log.Save(b), api.EDEAD)
					if n != 0 {
						t.Fatalf("%d records with an error", n)
					}
				}
				refused(t, "Sync", x.log.Sync(), api.EDEAD)
				l, e := journal.Open(x.disk)
				refused(t, "Open", e, api.EDEAD)
				if l != nil {
					t.Fatal("a log of a dead device")
				}
			}
		})
	}
}

// P11.3: power goes at each act, and keeps whatever it keeps.
func TestCrash(t *testing.T) {
	for _, size := range []int{0, 20, 107, 108, 250} {
		cutOff(t, size, func(fuse int, x *life) {
			for _, c := range crashes(x.disk.Loose(), cuts...) {
				d := x.disk.Clone()
				ok(t, "Crash", d.Crash(c.keep, c.torn, c.cut))
				x.may(t, c, open(t, c, d))
			}
		})
	}
}

// P11.3: power goes between two acts, too.
func TestCrashBetween(t *testing.T) {
	for _, size := range []int{0, 20, 107, 108, 250} {
		x := born(t, 40, some(0, size))
		look := func() {
			t.Helper()
			for _, c := range crashes(x.disk.Loose(), cuts...) {
				d := x.disk.Clone()
				ok(t, "Crash", d.Crash(c.keep, c.torn, c.cut))
				l := open(t, c, d)
				x.may(t, c, l)
				if len(c.keep) == len(x.disk.Loose()) {
					holds(t, c, l, len(x.records), x.snap, x.records...)
				}
				if c.keep == nil && c.torn < 0 {
					holds(t, c, l, x.sure, x.snap, x.records[:x.sure]...)
				}
			}
		}
		for round := range 3 {
			for k := range 4 {
				ok(t, "Append", x.add(some(byte(k), 1+size/(1+k))))
				look()
				if (k+round)%2 == 0 {
					ok(t, "Sync", x.sync())
					look()
				}
			}
			ok(t, "Save", x.save(some(byte(round), size)))
			look()
		}
	}
}

// P11.4: an Open that is cut off at each act, and a crash behind it, and an Open again: each has what the first one would have had.
func TestOpenCutOff(t *testing.T) {
	for _, size := range []int{0, 150} {
		cutOff(t, size, func(fuse int, x *life) {
			loose := x.disk.Loose()
			for _, c := range []crash{{nil, -1, 0}, {loose, fuse % 2, 60}, {loose[:len(loose)/2], -1, 0}} {
				d := x.disk.Clone()
				ok(t, "Crash", d.Crash(c.keep, c.torn, c.cut))
				want := open(t, c, d.Clone())
				x.may(t, c, want)
				cutOpens(t, d, want)
			}
		})
	}
}

// cutOpens opens a device with its power going at each act.
func cutOpens(t *testing.T, d *pages.Disk, want *journal.Log) {
	t.Helper()
	for fuse := range 60 {
		cut := d.Clone()
		ok(t, "Fuse", cut.Fuse(fuse))
		l, e := journal.Open(cut)
		if e == api.OK {
			holds(t, fuse, l, want.Sure(), want.Snapshot(), want.Records()...)
			return
		}
		refused(t, fuse, e, api.EDEAD)
		if l != nil {
			t.Fatal("a log with an error")
		}
		for _, c := range crashes(cut.Loose(), 3, 60, 125) {
			again := cut.Clone()
			ok(t, "Crash", again.Crash(c.keep, c.torn, c.cut))
			l := open(t, c, again)
			holds(t, c, l, want.Sure(), want.Snapshot(), want.Records()...)
		}
	}
	t.Fatal("there is no end of acts")
}

// P11.3, P11.4: many lives of one device, with power that goes at any act, of Open too.
func TestLives(t *testing.T) {
	rnd := rand.New(rand.NewSource(115))
	for range 60 {
		x := born(t, 8+rnd.Intn(20), some(0, rnd.Intn(300)))
		for range 30 {
			ok(t, "Fuse", x.disk.Fuse(rnd.Intn(30)))
			var e api.Errno
			for e != api.EDEAD {
				switch b := some(byte(rnd.Intn(256)), 1+rnd.Intn(1<<rnd.Intn(8))); rnd.Intn(8) {
				case 0, 1:
					e = x.sync()
				case 2:
					e = x.save(b)
				default:
					e = x.add(b)
				}
				if e != api.OK && e != api.EFULL && e != api.EDEAD {
					t.Fatalf("error %d", e)
				}
				holds(t, "alive", x.log, x.sure, x.snap, x.records...)
			}
			for e != api.OK { // till an Open comes through
				var keep []int
				for _, i := range x.disk.Loose() {
					if rnd.Intn(2) == 0 {
						keep = append(keep, i)
					}
				}
				ok(t, "Crash", x.disk.Crash(keep, rnd.Intn(x.disk.Size()), rnd.Intn(129)))
				if rnd.Intn(2) == 0 {
					ok(t, "Fuse", x.disk.Fuse(rnd.Intn(12)))
				}
				x.log, e = journal.Open(x.disk)
			}
			x.may(t, "opened", x.log)
			x.snap, x.records, x.next = x.log.Snapshot(), x.log.Records(), nil
			x.sure = len(x.records)
			if e := x.disk.Fuse(-1); e != api.OK {
				t.Fatal(e)
			}
		}
	}
}

// P11.1, P11.2: a log that no call made.
func TestNoLog(t *testing.T) {
	none, _ := journal.Open(nil)
	for _, l := range []*journal.Log{nil, {}, new(journal.Log), none} {
		for range 2 {
			for _, b := range [][]byte{nil, {}, {1}, make([]byte, limit+1)} {
				n, e := l.Append(b)
				refused(t, "Append", e, api.ENIL)
				refused(t, "Save", l.Save(b), api.ENIL)
				if n != 0 {
					t.Fatalf("%d records", n)
				}
			}
			refused(t, "Sync", l.Sync(), api.ENIL)
			if len(l.Snapshot()) != 0 || len(l.Records()) != 0 || l.Sure() != 0 {
				t.Fatalf("%x, %x, %d", l.Snapshot(), l.Records(), l.Sure())
			}
		}
	}
}

// spoil turns all bytes of a list, and of the room behind it.
func spoil(b []byte) {
	b = b[:cap(b)]
	for i := range b {
		b[i] ^= 255
	}
}

// P11.2: what is handed in or out is not the log's.
func TestMemory(t *testing.T) {
	d := device(t, 12)
	lot := []byte("snapshot and what is behind it")
	in := lot[:8]
	l := format(t, d, in)
	record := []byte("record and what is behind it")
	n, e := l.Append(record[:6])
	if n != 1 || e != api.OK || string(record) != "record and what is behind it" || string(lot) != "snapshot and what is behind it" {
		t.Fatal("what was handed in was changed")
	}
	spoil(in)
	spoil(record)
	whole := [][]byte{[]byte("record"), []byte("two"), []byte("three")}
	add(t, l, whole[1], whole[2])
	holds(t, "handed in", l, 0, []byte("snapshot"), whole...)

	for range 2 {
		snap, again := l.Snapshot(), l.Snapshot()
		spoil(snap)
		if string(again) != "snapshot" {
			t.Fatal("two snapshots share memory")
		}
		one, other := l.Records(), l.Records()
		spoil(one[0])
		if string(one[1]) != "two" || string(one[2]) != "three" {
			t.Fatal("two records share memory")
		}
		for i := range one {
			spoil(one[i])
		}
		one = one[:cap(one)]
		for i := range one {
			one[i] = nil
		}
		if !same(other, whole) {
			t.Fatal("two lists of records share memory")
		}
		holds(t, "handed out", l, l.Sure(), []byte("snapshot"), whole...)
		if more, e := l.Append([]byte("more")); more != len(whole)+1 || e != api.OK {
			t.Fatal(more, e)
		}
		if !same(other, whole) {
			t.Fatal("an answer was changed by a later call")
		}
		ok(t, "Save", l.Save([]byte("snapshot")))
		add(t, l, whole...)
		if !same(other, whole) {
			t.Fatal("an answer was changed by a later call")
		}
		ok(t, "Sync", l.Sync())
		l = open(t, "opened", d)
	}
	saved := []byte("saved and more")
	ok(t, "Save", l.Save(saved[:5]))
	if string(saved) != "saved and more" {
		t.Fatal("what was handed in was changed")
	}
	spoil(saved)
	holds(t, "saved", l, 0, []byte("saved"))
	holds(t, "opened", open(t, "opened", d), 0, []byte("saved"))
}

// P11.2: two logs know nothing of one another.
func TestTwo(t *testing.T) {
	a, b := device(t, 10), device(t, 10)
	l, m := format(t, a, []byte("a")), format(t, b, []byte("b"))
	add(t, l, []byte("one"))
	ok(t, "Sync", l.Sync())
	ok(t, "Fuse", b.Fuse(0))
	refused(t, "Append", func() api.Errno { _, e := m.Append([]byte("x")); return e }(), api.EDEAD)
	add(t, l, []byte("two"))
	holds(t, "one", l, 1, []byte("a"), []byte("one"), []byte("two"))
	holds(t, "the other", m, 0, []byte("b"))
	ok(t, "Crash", b.Crash(nil, math.MinInt, math.MaxInt))
	holds(t, "opened", open(t, "opened", b), 0, []byte("b"))
}
