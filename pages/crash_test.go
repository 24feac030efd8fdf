package pages_test

import (
	"bytes"
	"math"
	"math/rand"
	"slices"
	"testing"

	"scholia/api"
	"scholia/pages"
)

// P10.1, P10.3: the chapter's example.
func TestExample(t *testing.T) {
	d := device(t, 2)
	write(t, d, 1, "old", true)
	write(t, d, 1, "new", false)
	ok(t, "Crash", d.Crash(nil, -1, 0))
	holds(t, "crashed", d, nil, "", "old")
}

// five is a device whose pages 1 to 3 are loose; of these 2 had nothing.
func five(t *testing.T) *pages.Disk {
	t.Helper()
	d := device(t, 5)
	write(t, d, 0, "zero", false)
	write(t, d, 1, "one", false)
	write(t, d, 3, "three", true)
	write(t, d, 1, "x", false)
	write(t, d, 1, "ONE", false)
	write(t, d, 2, "TWO", false)
	write(t, d, 3, "y", false)
	write(t, d, 3, "", false)
	holds(t, "five", d, []int{1, 2, 3}, "zero", "ONE", "TWO", "", "")
	return d
}

// P10.1: pages that are kept have what was written last, others what they had at the sync.
func TestCrashKeep(t *testing.T) {
	for _, c := range []struct {
		keep []int
		want []string
	}{
		{nil, []string{"zero", "one", "", "three", ""}},
		{[]int{}, []string{"zero", "one", "", "three", ""}},
		{[]int{1}, []string{"zero", "ONE", "", "three", ""}},
		{[]int{2}, []string{"zero", "one", "TWO", "three", ""}},
		{[]int{3}, []string{"zero", "one", "", "", ""}},
		{[]int{3, 1}, []string{"zero", "ONE", "", "", ""}},
		{[]int{3, 2, 1}, []string{"zero", "ONE", "TWO", "", ""}},
		{[]int{2, 2, 2, 1, 2}, []string{"zero", "ONE", "TWO", "three", ""}},
		{[]int{0, 4}, []string{"zero", "one", "", "three", ""}},
		{append([]int{0, 5, 1, 6}, far...), []string{"zero", "ONE", "", "three", ""}},
		{append(slices.Clone(far), 2), []string{"zero", "one", "TWO", "three", ""}},
	} {
		for _, torn := range append([]int{0, 4, 5}, far...) { // none of these is loose
			d := five(t)
			ok(t, c.keep, d.Crash(c.keep, torn, 64))
			holds(t, c.keep, d, nil, c.want...)
			ok(t, "once more", d.Crash([]int{1, 2, 3}, 1, 128))
			holds(t, "once more", d, nil, c.want...)
		}
	}
}

// P10.1: of a page that is torn the first bytes are new; it may stand among those that are kept.
func TestCrashTorn(t *testing.T) {
	old, fresh := make([]byte, 128), make([]byte, 90)
	for i := range old {
		old[i] = byte(i + 1)
	}
	for i := range fresh {
		fresh[i] = byte(200 - i)
	}
	cuts := []int{math.MinInt, -1 << 32, -1, 129, 256, 1 << 32, math.MaxInt}
	for cut := range 129 {
		cuts = append(cuts, cut)
	}
	for _, cut := range cuts {
		lasts := min(max(cut, 0), 128)
		want := string(full(string(fresh))[:lasts]) + string(old[lasts:])
		for _, keep := range [][]int{nil, {1}, {0, 1, 2}, {2}} {
			d := device(t, 3)
			write(t, d, 1, string(old), true)
			write(t, d, 1, many(3, 128), false)
			write(t, d, 1, string(fresh), false)
			write(t, d, 2, "b", false)
			ok(t, cut, d.Crash(keep, 1, cut))
			second := ""
			if slices.Contains(keep, 2) {
				second = "b"
			}
			holds(t, cut, d, nil, "", want, second)
		}
	}
}

// P10.1: behind a crash all goes on: what was written stays loose till it is synced.
func TestCrashAgain(t *testing.T) {
	d := five(t)
	ok(t, "Crash", d.Crash([]int{1}, 2, 2))
	holds(t, "crashed", d, nil, "zero", "ONE", "TW", "three", "")
	write(t, d, 2, "two", false)
	holds(t, "written", d, []int{2}, "zero", "ONE", "two", "three", "")
	ok(t, "Crash", d.Crash(nil, 2, 1))
	holds(t, "crashed again", d, nil, "zero", "ONE", "tW", "three", "")
	write(t, d, 2, "two", true)
	ok(t, "Crash", d.Crash(nil, 2, 0))
	holds(t, "synced", d, nil, "zero", "ONE", "two", "three", "")
}

// dead tells whether a device tells to all that it is dead, and has changed nothing by it.
func dead(t *testing.T, what any, d *pages.Disk, loose []int) {
	t.Helper()
	for range 2 {
		if !d.Dead() {
			t.Fatalf("%v: it lives", what)
		}
		for i := range d.Size() {
			b, e := d.Read(i)
			refused(t, "Read", e, api.EDEAD)
			if b != nil {
				t.Fatalf("%v: page %d has %x", what, i, b)
			}
			refused(t, "Write", d.Write(i, []byte("dead")), api.EDEAD)
		}
		refused(t, "Sync", d.Sync(), api.EDEAD)
		for _, n := range []int{-1, 0, 1, 100, math.MinInt, math.MaxInt} {
			refused(t, "Fuse", d.Fuse(n), api.EDEAD)
		}
		for _, i := range append([]int{d.Size()}, far...) {
			_, e := d.Read(i)
			refused(t, "Read of no page", e, api.EARG)
			refused(t, "Write of no page", d.Write(i, nil), api.EARG)
		}
		refused(t, "Write of much", d.Write(0, make([]byte, 129)), api.EARG)
		if l := d.Loose(); !slices.Equal(l, loose) {
			t.Fatalf("%v: %v are loose, not %v", what, l, loose)
		}
	}
}

// P10.2: so many acts go on; the one behind them does nothing.
func TestFuse(t *testing.T) {
	for n := range 6 {
		d := device(t, 3)
		write(t, d, 0, "a", true)
		ok(t, n, d.Fuse(n))
		acts := 0
		var e api.Errno
		for e == api.OK {
			switch acts {
			case 0:
				e = d.Write(0, []byte("b"))
			case 1:
				e = d.Write(1, []byte("c"))
			case 2:
				e = d.Sync()
			case 3:
				e = d.Write(2, []byte("d"))
			default:
				e = d.Sync()
			}
			if e == api.OK {
				acts++
			}
		}
		refused(t, n, e, api.EDEAD)
		if acts != n {
			t.Fatalf("%d acts went on, not %d", acts, n)
		}
		dead(t, n, d, [][]int{nil, {0}, {0, 1}, nil, {2}, nil}[n])
		all := d.Clone()
		ok(t, n, all.Crash([]int{0, 1, 2}, -1, 0))
		holds(t, n, all, nil, [][]string{{"a", "", ""}, {"b", "", ""}, {"b", "c", ""}, {"b", "c", ""}, {"b", "c", "d"}, {"b", "c", "d"}}[n]...)
		ok(t, n, d.Crash(nil, -1, 0))
		holds(t, n, d, nil, [][]string{{"a", "", ""}, {"a", "", ""}, {"a", "", ""}, {"b", "c", ""}, {"b", "c", ""}, {"b", "c", "d"}}[n]...)
		for range 20 { // there is no fuse any more
			write(t, d, 0, "e", true)
		}
	}
}

// P10.2: just Write and Sync are acts, and just where they are not refused.
func TestActs(t *testing.T) {
	d := device(t, 3)
	ok(t, "Fuse", d.Fuse(2))
	for range 5 {
		refused(t, "Write of no page", d.Write(3, nil), api.EARG)
		refused(t, "Write of much", d.Write(0, make([]byte, 129)), api.EARG)
		_, e := d.Read(-1)
		refused(t, "Read of no page", e, api.EARG)
		holds(t, "lives", d, nil, "", "", "")
		holds(t, "its clone", d.Clone(), nil, "", "", "")
	}
	write(t, d, 0, "a", true)
	refused(t, "Write of no page", d.Write(3, nil), api.EARG)
	holds(t, "burnt to its end", d, nil, "a", "", "")
	refused(t, "Write", d.Write(1, []byte("b")), api.EDEAD)
	dead(t, "burnt out", d, nil)
}

// P10.2: a fuse takes the place of the one ahead; below 0 there is none.
func TestFuseAgain(t *testing.T) {
	for _, n := range []int{-1, -2, -1 << 32, math.MinInt, 1 << 32, math.MaxInt} {
		d := device(t, 2)
		for _, ahead := range []int{0, 1, 1 << 32, -7} {
			ok(t, ahead, d.Fuse(ahead))
			ok(t, n, d.Fuse(n))
			for range 50 {
				write(t, d, 0, "a", true)
			}
		}
		holds(t, n, d, nil, "a", "")
		ok(t, "Fuse", d.Fuse(100))
		ok(t, "Fuse", d.Fuse(3))
		write(t, d, 1, "b", true)
		ok(t, "Fuse", d.Fuse(1))
		write(t, d, 1, "c", false)
		refused(t, n, d.Sync(), api.EDEAD)
		dead(t, n, d, []int{1})
	}
}

// P10.2: a crash takes a fuse that did not burn.
func TestCrashTakesFuse(t *testing.T) {
	d := five(t)
	ok(t, "Fuse", d.Fuse(0))
	ok(t, "Crash", d.Crash([]int{1, 2, 3}, -1, 0))
	holds(t, "crashed", d, nil, "zero", "ONE", "TWO", "", "")
	for range 50 {
		write(t, d, 4, "four", true)
	}
	holds(t, "goes on", d, nil, "zero", "ONE", "TWO", "", "four")
}

// P10.3: whatever happens, each page has behind a crash what was synced, or what was written since then.
func TestLasts(t *testing.T) {
	rnd := rand.New(rand.NewSource(101))
	const n = 6
	for range 300 {
		d := device(t, n)
		var synced, now [n][128]byte
		loose := map[int]bool{}
		for range 40 {
			switch i := rnd.Intn(n); rnd.Intn(8) {
			case 0:
				ok(t, "Sync", d.Sync())
				synced = now
				clear(loose)
			case 1:
				torn, cut := rnd.Intn(n+2)-1, rnd.Intn(129)
				var keep []int
				for range rnd.Intn(n) {
					keep = append(keep, rnd.Intn(n+2)-1)
				}
				ok(t, "Crash", d.Crash(keep, torn, cut))
				for i := range n {
					lasts := 0
					if i == torn {
						lasts = cut
					} else if slices.Contains(keep, i) {
						lasts = 128
					}
					copy(synced[i][:lasts], now[i][:lasts])
				}
				now = synced
				clear(loose)
			default:
				b := make([]byte, rnd.Intn(129))
				rnd.Read(b)
				ok(t, "Write", d.Write(i, b))
				now[i] = [128]byte{}
				copy(now[i][:], b)
				loose[i] = true
			}
			for i := range n {
				b, e := d.Read(i)
				if e != api.OK || !bytes.Equal(b, now[i][:]) {
					t.Fatalf("page %d has %x, error %d; not %x", i, b, e, now[i])
				}
			}
			l := d.Loose()
			if len(l) != len(loose) || !slices.IsSorted(l) {
				t.Fatalf("loose are %v, not %v", l, loose)
			}
			for _, i := range l {
				if !loose[i] {
					t.Fatalf("loose are %v, not %v", l, loose)
				}
			}
		}
	}
}
