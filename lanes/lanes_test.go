package lanes_test

import (
	"bytes"
	"math"
	"math/rand"
	"slices"
	"testing"

	"scholia/api"
	"scholia/lanes"
)

// holds tells whether on a way there are just these messages.
func holds(t *testing.T, l *lanes.Lanes, from, to int, want ...string) {
	t.Helper()
	for range 2 { // to ask is to change nothing
		if n := l.Count(from, to); n != len(want) {
			t.Fatalf("%d to %d: %d messages, not %d", from, to, n, len(want))
		}
		for k, m := range want {
			if b, e := l.Peek(from, to, k); e != api.OK || string(b) != m {
				t.Fatalf("%d to %d: the %dth is %q, %d; not %q", from, to, k, b, e, m)
			}
		}
	}
}

// totals tells whether so many were sent, and so many lost.
func totals(t *testing.T, l *lanes.Lanes, sent, lost int) {
	t.Helper()
	if s, n := l.Totals(); s != sent || n != lost {
		t.Fatalf("%d were sent, %d lost; not %d, %d", s, n, sent, lost)
	}
}

// all tells whether each call tells that error, with nothing beside it.
func all(t *testing.T, l *lanes.Lanes, from, to, k int, want api.Errno) {
	t.Helper()
	b, e := l.Take(from, to, k)
	p, e2 := l.Peek(from, to, k)
	if len(b) != 0 || len(p) != 0 || e != want || e2 != want {
		t.Fatalf("%d to %d, %d: Take %q, %d; Peek %q, %d; not %d", from, to, k, b, e, p, e2, want)
	}
	for i, e := range []api.Errno{l.Lose(from, to, k), l.Double(from, to, k), l.Spoil(from, to, k, 0, 1)} {
		if e != want {
			t.Fatalf("%d to %d, %d: %d: error %d, not %d", from, to, k, i, e, want)
		}
	}
}

// P26.1: how many there may be.
func TestNew(t *testing.T) {
	for _, n := range []int{math.MinInt, -1, 0, 1, 65, 66, math.MaxInt} {
		if lanes.New(n) != nil {
			t.Errorf("ways between %d", n)
		}
	}
	for _, n := range []int{2, 3, 64} {
		l := lanes.New(n)
		ways := 0
		for from := -1; from <= n; from++ {
			for to := -1; to <= n; to++ {
				is := from >= 0 && from < n && to >= 0 && to < n && from != to
				e := l.Send(from, to, []byte{byte(from), byte(to)})
				if is != (e == api.OK) || !is && e != api.EPEER {
					t.Fatalf("of %d: %d to %d: error %d", n, from, to, e)
				}
				if is {
					ways++
					holds(t, l, from, to, string([]byte{byte(from), byte(to)}))
				} else if l.Count(from, to) != 0 {
					t.Fatalf("of %d: %d to %d has messages", n, from, to)
				}
			}
		}
		totals(t, l, ways, 0)
	}
}

// P26.1: where there is no such way, or no such message.
func TestNone(t *testing.T) {
	l := lanes.New(3)
	if l.Send(0, 1, []byte("a")) != api.OK || l.Send(0, 1, []byte("b")) != api.OK {
		t.Fatal("not sent")
	}
	for _, w := range [][2]int{{0, 0}, {2, 2}, {0, 3}, {3, 0}, {-1, 0}, {0, -1}, {math.MinInt, math.MaxInt}} {
		for _, k := range []int{-1, 0, 1} {
			all(t, l, w[0], w[1], k, api.EPEER)
		}
		if e := l.Send(w[0], w[1], []byte("x")); e != api.EPEER {
			t.Fatal(w, e)
		}
	}
	for _, k := range []int{2, 3, 40, -1, math.MinInt, math.MaxInt} {
		all(t, l, 0, 1, k, api.ENONE)
	}
	for _, w := range [][2]int{{1, 0}, {0, 2}, {2, 1}} {
		all(t, l, w[0], w[1], 0, api.ENONE)
	}
	holds(t, l, 0, 1, "a", "b")
	totals(t, l, 2, 0)
}

// P26.1: of none, and of a plain one.
func TestNil(t *testing.T) {
	for _, l := range []*lanes.Lanes{nil, {}, lanes.New(1)} {
		for _, k := range []int{-1, 0, 1} {
			all(t, l, 0, 1, k, api.EPEER)
		}
		if e := l.Send(0, 1, []byte("x")); e != api.EPEER {
			t.Fatal(e)
		}
		totals(t, l, 0, 0)
		if l.Count(0, 1) != 0 {
			t.Fatal("messages")
		}
	}
}

// P26.1: the chapter's example, and which one is taken.
func TestTake(t *testing.T) {
	l := lanes.New(2)
	l.Send(0, 1, []byte("one"))
	if e := l.Double(0, 1, 0); e != api.OK {
		t.Fatal(e)
	}
	if b, e := l.Take(0, 1, 1); e != api.OK || string(b) != "one" {
		t.Fatalf("%q, %d", b, e)
	}
	holds(t, l, 0, 1, "one")
	for _, m := range []string{"two", "", "four"} {
		l.Send(0, 1, []byte(m))
	}
	holds(t, l, 0, 1, "one", "two", "", "four")
	holds(t, l, 1, 0)
	if b, e := l.Take(0, 1, 1); e != api.OK || string(b) != "two" {
		t.Fatalf("%q, %d", b, e)
	}
	if e := l.Double(0, 1, 0); e != api.OK {
		t.Fatal(e)
	}
	holds(t, l, 0, 1, "one", "", "four", "one")
	if e := l.Lose(0, 1, 2); e != api.OK {
		t.Fatal(e)
	}
	holds(t, l, 0, 1, "one", "", "one")
	totals(t, l, 4, 1)
	for _, want := range []string{"one", "", "one"} {
		if b, e := l.Take(0, 1, 0); e != api.OK || string(b) != want {
			t.Fatalf("%q, %d", b, e)
		}
	}
	all(t, l, 0, 1, 0, api.ENONE)
	totals(t, l, 4, 1) // what was taken was not lost
}

// P26.1: forty may be on the way, and no more.
func TestFull(t *testing.T) {
	l := lanes.New(3)
	var want []string
	for i := range 40 {
		want = append(want, string([]byte{byte(i)}))
		if e := l.Send(2, 0, []byte(want[i])); e != api.OK {
			t.Fatal(i, e)
		}
	}
	totals(t, l, 40, 0)
	for i := range 3 {
		if e := l.Send(2, 0, []byte("lost")); e != api.EFULL {
			t.Fatal(e)
		}
		totals(t, l, 41+i, 1+i)
	}
	for _, k := range []int{0, 39} {
		if e := l.Double(2, 0, k); e != api.EFULL {
			t.Fatal(e)
		}
	}
	for _, k := range []int{40, -1} { // that there is none comes first
		if e := l.Double(2, 0, k); e != api.ENONE {
			t.Fatal(e)
		}
	}
	totals(t, l, 43, 3) // what was not doubled was not lost
	holds(t, l, 2, 0, want...)
	if e := l.Send(0, 2, []byte("x")); e != api.OK || l.Send(2, 1, nil) != api.OK {
		t.Fatal("another way is full")
	}
	l.Lose(2, 0, 39)
	if e := l.Double(2, 0, 5); e != api.OK || l.Double(2, 0, 5) != api.EFULL {
		t.Fatal(e)
	}
	holds(t, l, 2, 0, append(want[:39:39], want[5])...)
	totals(t, l, 45, 4)
}

// P26.1: what is turned, and where.
func TestSpoil(t *testing.T) {
	l := lanes.New(2)
	for _, m := range []string{"abc", "abc", ""} {
		l.Send(0, 1, []byte(m))
	}
	spoil := func(k, at int, by byte, want ...string) {
		t.Helper()
		if e := l.Spoil(0, 1, k, at, by); e != api.OK {
			t.Fatal(k, at, by, e)
		}
		holds(t, l, 0, 1, want...)
	}
	spoil(0, 1, 1, "acc", "abc", "")
	spoil(0, 2, 32, "abC", "abc", "") // in the place of what was turned ahead
	spoil(0, 3, 32, "Abc", "abc", "")
	spoil(0, 7, 32, "aBc", "abc", "")
	spoil(0, -1, 32, "Abc", "abc", "")
	spoil(0, math.MinInt, 32, "Abc", "abc", "")
	spoil(0, math.MaxInt, 32, string([]byte{"Aaa"[math.MaxInt%3], "bBb"[math.MaxInt%3], "ccC"[math.MaxInt%3]}), "abc", "")
	spoil(0, 2, 0, "abc", "abc", "") // by nothing
	for _, at := range []int{-1, 0, 1, math.MaxInt} {
		spoil(2, at, 255, "abc", "abc", "")
	}
	// What was doubled goes its own way, as it was.
	spoil(1, 0, 32, "abc", "Abc", "")
	if e := l.Double(0, 1, 1); e != api.OK {
		t.Fatal(e)
	}
	holds(t, l, 0, 1, "abc", "Abc", "", "Abc")
	spoil(1, 1, 32, "abc", "aBc", "", "Abc")
	spoil(3, 2, 32, "abc", "aBc", "", "abC")
	if b, e := l.Take(0, 1, 1); e != api.OK || string(b) != "aBc" {
		t.Fatalf("%q, %d", b, e)
	}
	totals(t, l, 3, 0)
}

// P26.1: what is handed in or out is not the ways' own.
func TestMemory(t *testing.T) {
	l := lanes.New(2)
	in := []byte("message and what is behind it")
	if e := l.Send(0, 1, in[:7]); e != api.OK || string(in) != "message and what is behind it" {
		t.Fatal(e)
	}
	clear(in)
	l.Double(0, 1, 0)
	holds(t, l, 0, 1, "message", "message")
	b, _ := l.Peek(0, 1, 0)
	clear(b[:cap(b)])
	b, _ = l.Take(0, 1, 0)
	clear(b[:cap(b)])
	holds(t, l, 0, 1, "message")
	if l.Send(1, 0, nil) != api.OK || l.Send(1, 0, []byte{}) != api.OK {
		t.Fatal("without a byte")
	}
	holds(t, l, 1, 0, "", "")
}

// lying is a message on a way, as a list has it.
type lying struct {
	b  []byte
	at int
	by byte
}

// comes is a message as it comes.
func (m lying) comes() []byte {
	b := slices.Clone(m.b)
	if len(b) > 0 {
		b[m.at%len(b)] ^= m.by
	}
	return b
}

// P26.1: many calls, held against lists.
func TestAny(t *testing.T) {
	rnd := rand.New(rand.NewSource(26))
	const n = 3
	l := lanes.New(n)
	var lists [n][n][]lying
	sent, lost := 0, 0
	for range 5000 {
		from := rnd.Intn(n)
		to := (from + 1 + rnd.Intn(n-1)) % n
		list := &lists[from][to]
		k := rnd.Intn(len(*list)+2) - 1
		want := api.OK
		if k < 0 || k >= len(*list) {
			want = api.ENONE
		}
		var e api.Errno
		switch rnd.Intn(8) {
		case 0, 1, 2:
			b := make([]byte, rnd.Intn(4))
			rnd.Read(b)
			e = l.Send(from, to, b)
			sent++
			if want = api.OK; len(*list) == 40 {
				want = api.EFULL
				lost++
			} else {
				*list = append(*list, lying{b: b})
			}
		case 3:
			var b []byte
			if b, e = l.Take(from, to, k); want == api.OK {
				if !bytes.Equal(b, (*list)[k].comes()) {
					t.Fatalf("%x, not %x", b, (*list)[k].comes())
				}
				*list = slices.Delete(*list, k, k+1)
			}
		case 4:
			if e = l.Lose(from, to, k); want == api.OK {
				*list = slices.Delete(*list, k, k+1)
				lost++
			}
		case 5, 6:
			if e = l.Double(from, to, k); want == api.OK {
				if len(*list) == 40 {
					want = api.EFULL
				} else {
					*list = append(*list, (*list)[k])
				}
			}
		default:
			at, by := rnd.Intn(9), byte(rnd.Intn(256))
			if e = l.Spoil(from, to, k, at, by); want == api.OK {
				(*list)[k].at, (*list)[k].by = at, by
			}
		}
		if e != want {
			t.Fatalf("error %d, not %d", e, want)
		}
		totals(t, l, sent, lost)
		var texts []string
		for _, m := range *list {
			texts = append(texts, string(m.comes()))
		}
		holds(t, l, from, to, texts...)
	}
	if lost == 0 {
		t.Error("nothing was lost")
	}
}
