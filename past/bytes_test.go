package past_test

import (
	"bytes"
	"encoding/hex"
	"math"
	"math/rand"
	"slices"
	"strings"
	"testing"

	"scholia/api"
	"scholia/coder"
	"scholia/docs"
	"scholia/past"
)

// rising is so many dots, from one on.
func rising(rep, from, n int) []api.Dot {
	var l []api.Dot
	for i := range n {
		l = append(l, dot(rep, from+i))
	}
	return l
}

// long is an event that has as much as there may be.
func long() api.Event {
	return api.Event{Dot: dot(63, api.MaxCount), Time: 1 << 40, Kind: api.Put, Doc: "012345678-az", Field: 4, Text: strings.Repeat("z", 160), Gone: rising(63, api.MaxCount-120, 120)}
}

// longBytes is its bytes.
func longBytes() string {
	s := "3ff040000000" + "f90000000000" + "01" + "0c3031323334353637382d617a" + "04" + "80a0" + strings.Repeat("7a", 160) + "78"
	for i := range 120 {
		s += "3f" + hex.EncodeToString(coder.Num(nil, api.MaxCount-120+i))
	}
	return s
}

// written: events, and their bytes.
var written = []struct {
	e    api.Event
	want string
}{
	{put(dot(0, 1)), "0001" + "05" + "01" + "0161" + "01" + "0178" + "00"},
	{drop(dot(2, 300)), "02812c" + "05" + "02" + "0161" + "00" + "00" + "00"},
	{drop(dot(2, 3), dot(0, 300), dot(2, 2), dot(2, 4)), "0203" + "05" + "02" + "0161" + "00" + "00" + "03" + "00812c" + "0202" + "0204"},
	{api.Event{Dot: dot(1, 1), Time: 300, Kind: api.Put, Doc: "a-1", Gone: []api.Dot{dot(63, api.MaxCount)}}, "0101" + "812c" + "01" + "03612d31" + "00" + "00" + "01" + "3ff040000000"},
	{api.Event{Dot: dot(1, 1), Time: 1, Kind: api.Put, Doc: "b", Field: 3, Text: "é"}, "0101" + "01" + "01" + "0162" + "03" + "02c3a9" + "00"},
	{api.Event{Dot: dot(1, 1), Time: 1, Kind: api.Put, Doc: "b", Field: 3}, "0101" + "01" + "01" + "0162" + "03" + "00" + "00"},
	{long(), longBytes()},
}

// noDot is the bytes of an event that may not be, as it has no dot.
const noDot = "0000" + "05" + "01" + "0161" + "01" + "0178" + "00"

// wrongEvents are events that may not be.
func wrongEvents() []api.Event {
	var l []api.Event
	for _, d := range badDots {
		l = append(l, put(d), drop(d), put(dot(0, 1), d), drop(dot(0, 1), dot(0, 2), d))
	}
	changes := []func(e *api.Event){
		func(e *api.Event) { e.Time = 0 }, func(e *api.Event) { e.Time = -1 }, func(e *api.Event) { e.Time = 1<<40 + 1 },
		func(e *api.Event) { e.Kind = 0 }, func(e *api.Event) { e.Kind = 3 }, func(e *api.Event) { e.Kind = -1 }, func(e *api.Event) { e.Kind = 1<<32 + 1 },
		func(e *api.Event) { e.Doc = "" }, func(e *api.Event) { e.Doc = "A" }, func(e *api.Event) { e.Doc = strings.Repeat("a", 13) },
		func(e *api.Event) { e.Field = -1 }, func(e *api.Event) { e.Field = 5 },
		func(e *api.Event) { e.Text = strings.Repeat("x", 161) }, func(e *api.Event) { e.Text = "\xff" },
		func(e *api.Event) { e.Gone = rising(5, 1, 121) }, func(e *api.Event) { e.Gone = []api.Dot{e.Dot} },
		func(e *api.Event) { e.Gone = []api.Dot{dot(1, 2), dot(1, 1)} }, func(e *api.Event) { e.Gone = []api.Dot{dot(1, 1), dot(1, 1)} },
	}
	for _, c := range changes {
		for _, e := range []api.Event{put(dot(0, 1)), drop(dot(0, 1))} {
			c(&e)
			l = append(l, e)
		}
	}
	field := drop(dot(0, 1))
	field.Field = 1
	text := drop(dot(0, 1))
	text.Text = "x"
	none := put(dot(0, 1))
	none.Field = 0
	return append(l, field, text, none, api.Event{})
}

// P13.2
func TestEventBytes(t *testing.T) {
	for _, c := range written {
		for _, ahead := range []string{"", "00", "abcd", strings.Repeat("7f", 300)} {
			if got := hex.EncodeToString(past.PutEvent(unhex(ahead), c.e)); got != ahead+c.want {
				t.Errorf("%v behind %s: %s, not %s", c.e, ahead, got, c.want)
			}
		}
		r := coder.Read(unhex(c.want + "0000"))
		if got := past.ReadEvent(r); !same([]api.Event{got}, []api.Event{c.e}) || r.Err() != api.OK || r.Left() != 2 {
			t.Errorf("%s: %v, error %d, left %d", c.want, got, r.Err(), r.Left())
		}
		b := unhex(c.want)
		for k := range b {
			r := coder.Read(b[:k])
			if got := past.ReadEvent(r); !same([]api.Event{got}, []api.Event{{}}) || r.Err() != api.ESHORT {
				t.Errorf("%x: %v, error %d", b[:k], got, r.Err())
			}
		}
	}
	for _, e := range wrongEvents() {
		if docs.Check(e) == api.OK {
			t.Fatalf("%v may be", e)
		}
		if got := past.PutEvent([]byte{1, 2}, e); !bytes.Equal(got, []byte{1, 2}) {
			t.Errorf("%v: %x", e, got)
		}
		if got := past.PutEvent(nil, e); len(got) != 0 {
			t.Errorf("%v: %x", e, got)
		}
	}
}

// P13.2: bytes that are no event's.
func TestReadEventErrors(t *testing.T) {
	const ok = "0001" + "05" + "01" + "0161" + "01" + "0178"
	for s, e := range map[string]api.Errno{
		"":                                   api.ESHORT,
		"4001":                               api.ELONG, // replica 64
		"00f040000001":                       api.ELONG,
		"0001" + "f90000000001":              api.ELONG, // above 2^40
		"0001" + "05" + "01" + "0d":          api.ELONG, // 13 bytes of a name
		"0001" + "05" + "01" + "0161" + "05": api.ELONG, // field 5
		"0001" + "05" + "01" + "0161" + "01" + "80a1" + strings.Repeat("61", 170): api.ELONG,
		ok + "79" + strings.Repeat("0101", 130):                                   api.ELONG, // 121 dots
		ok + "ffffffffffffffffff":                                                 api.ELONG,
		ok + "01" + "4001":                                                        api.ELONG,
		ok + "01" + "00f040000001":                                                api.ELONG,
		"800001":                                                                  api.EFORM,
		ok + "8000":                                                               api.EFORM,
		ok + "02" + "0101":                                                        api.ESHORT,
		ok + "78" + strings.Repeat("0101", 119):                                   api.ESHORT,
		// What is read well, but may not be.
		noDot: api.EFORM,
		"0001" + "00" + "01" + "0161" + "01" + "0178" + "00": api.EFORM, // no time
		"0001" + "05" + "00" + "0161" + "01" + "0178" + "00": api.EFORM, // another kind
		"0001" + "05" + "02" + "0161" + "01" + "0178" + "00": api.EFORM, // a Drop of a field
		"0001" + "05" + "02" + "0161" + "01" + "00" + "00":   api.EFORM,
		"0001" + "05" + "02" + "0161" + "00" + "0178" + "00": api.EFORM,
		"0001" + "05" + "01" + "0161" + "00" + "0178" + "00": api.EFORM, // a text in field 0
		"0001" + "05" + "01" + "00" + "01" + "0178" + "00":   api.EFORM, // no name
		"0001" + "05" + "01" + "0141" + "01" + "0178" + "00": api.EFORM,
		"0001" + "05" + "01" + "0161" + "01" + "01ff" + "00": api.EFORM, // no UTF-8
		ok + "01" + "0001":          api.EFORM, // itself
		ok + "01" + "0100":          api.EFORM, // no dot
		ok + "02" + "0101" + "0101": api.EFORM, // twice
		ok + "02" + "0102" + "0101": api.EFORM, // not rising
		ok + "02" + "0201" + "0109": api.EFORM,
	} {
		r := coder.Read(unhex(s))
		if got := past.ReadEvent(r); !same([]api.Event{got}, []api.Event{{}}) || r.Err() != e || r.Left() != 0 {
			t.Errorf("%s: %v, error %d, left %d; not %d", s, got, r.Err(), r.Left(), e)
		}
	}
}

// P13.2: an event of another kind is one that may not be.
func TestReadOtherKind(t *testing.T) {
	for _, kind := range []int{0, 3, 4, 127, 128, 1 << 32, 1<<32 + 1, math.MaxInt} {
		b := append(coder.Num(unhex("000105"), kind), unhex("0161"+"00"+"00"+"00")...)
		r := coder.Read(b)
		if got := past.ReadEvent(r); !same([]api.Event{got}, []api.Event{{}}) || r.Err() != api.EFORM {
			t.Errorf("%d: %v, error %d", kind, got, r.Err())
		}
	}
}

// P13.2: whatever byte is turned, what is read may be, and has these bytes, or there is an error.
func TestTurned(t *testing.T) {
	p := api.Past{Floor: api.Vector{3, 0, 300}}
	for _, c := range written[:6] {
		p.Events = append(p.Events, c.e)
	}
	b := past.Put(nil, p)
	for at := range b {
		for x := 1; x < 256; x++ {
			turned := slices.Clone(b)
			turned[at] ^= byte(x)
			r := coder.Read(turned)
			got := past.Read(r)
			if r.Err() != api.OK {
				if !samePast(got, api.Past{}) || r.Left() != 0 {
					t.Fatalf("%x: %v with an error", turned, got)
				}
				continue
			}
			if samePast(got, p) || !bytes.Equal(past.Put(nil, got), turned[:len(turned)-r.Left()]) {
				t.Fatalf("%x: %v", turned, got)
			}
		}
	}
}

// P13.2: how many, and each.
func TestEventsBytes(t *testing.T) {
	var l []api.Event
	each := ""
	for n := range len(written) + 1 {
		want := hex.EncodeToString([]byte{byte(n)}) + each
		for _, ahead := range []string{"", "abcd"} {
			if got := hex.EncodeToString(past.PutEvents(unhex(ahead), l)); got != ahead+want {
				t.Fatalf("%d behind %s: %s, not %s", n, ahead, got, want)
			}
		}
		for _, most := range []int{n, n + 1, 4096, math.MaxInt} {
			r := coder.Read(unhex(want + "0203"))
			if got := past.ReadEvents(r, most); !same(got, l) || r.Err() != api.OK || r.Left() != 2 {
				t.Fatalf("%d of %d: %v, error %d", n, most, got, r.Err())
			}
		}
		for _, most := range []int{math.MinInt, -1, n - 1} {
			r := coder.Read(unhex(want + "0203"))
			if got := past.ReadEvents(r, most); len(got) != 0 || r.Err() != api.ELONG || r.Left() != 0 {
				t.Fatalf("%d of %d: %v, error %d", n, most, got, r.Err())
			}
		}
		b := unhex(want)
		for k := range b {
			r := coder.Read(b[:k])
			if got := past.ReadEvents(r, 100); len(got) != 0 || r.Err() != api.ESHORT {
				t.Fatalf("%x: %v, error %d", b[:k], got, r.Err())
			}
		}
		if n < len(written) {
			l = append(l, written[n].e)
			each += written[n].want
		}
	}
	for s, e := range map[string]api.Errno{
		"":                                       api.ESHORT,
		"ffffffffffffffffff":                     api.ELONG,
		"8000":                                   api.EFORM,
		"01" + noDot:                             api.EFORM,
		"02" + written[0].want + noDot:           api.EFORM, // the second may not be
		"02" + written[0].want + "4000":          api.ELONG,
		"03" + written[0].want + written[1].want: api.ESHORT,
	} {
		r := coder.Read(unhex(s))
		if got := past.ReadEvents(r, 4096); len(got) != 0 || r.Err() != e {
			t.Errorf("%s: %v, error %d, not %d", s, got, r.Err(), e)
		}
	}
}

// P13.2: one twice, and not in order: a list of events may have that.
func TestEventsTwice(t *testing.T) {
	l := []api.Event{put(dot(0, 2)), put(dot(0, 1)), put(dot(0, 2))}
	r := coder.Read(past.Put(nil, api.Past{Events: l}))
	if got := past.Read(r); !same(got.Events, l) || r.End() != api.OK {
		t.Error(got, r.End())
	}
}

// P13.2: how many is how many there are, also where one may not be, whose bytes are none.
func TestEventsWrong(t *testing.T) {
	for _, e := range wrongEvents() {
		got := hex.EncodeToString(past.PutEvents(nil, []api.Event{written[0].e, e, written[1].e}))
		if want := "03" + written[0].want + written[1].want; got != want {
			t.Errorf("%v: %s, not %s", e, got, want)
		}
	}
}

// P13.2
func TestPastBytes(t *testing.T) {
	for _, c := range []struct {
		p    api.Past
		want string
	}{
		{api.Past{}, "00" + "00"},
		{api.Past{Floor: api.Vector{1, 300}}, "02000000812b" + "00"},
		{api.Past{Events: []api.Event{written[1].e, written[0].e}}, "00" + "02" + written[1].want + written[0].want},
		{api.Past{Events: []api.Event{written[6].e}, Floor: api.Vector{63: api.MaxCount}}, "013ff03fffffff" + "01" + written[6].want},
	} {
		for _, ahead := range []string{"", "abcd"} {
			if got := hex.EncodeToString(past.Put(unhex(ahead), c.p)); got != ahead+c.want {
				t.Errorf("%v: %s, not %s", c.p, got, c.want)
			}
		}
		r := coder.Read(unhex(c.want + "07"))
		if got := past.Read(r); !samePast(got, c.p) || r.Err() != api.OK || r.Left() != 1 {
			t.Errorf("%s: %v, error %d", c.want, got, r.Err())
		}
		b := unhex(c.want)
		for k := range b {
			r := coder.Read(b[:k])
			if got := past.Read(r); !samePast(got, api.Past{}) || r.Err() != api.ESHORT {
				t.Errorf("%x: %v, error %d", b[:k], got, r.Err())
			}
		}
	}
	for s, e := range map[string]api.Errno{
		"0140":                  api.ELONG,
		"010000" + "9001":       api.ELONG, // 4097 events
		"010000" + "9000":       api.ESHORT,
		"010000" + "01" + noDot: api.EFORM,
		"800100":                api.EFORM,
	} {
		r := coder.Read(unhex(s))
		if got := past.Read(r); !samePast(got, api.Past{}) || r.Err() != e || r.Left() != 0 {
			t.Errorf("%s: %v, error %d, not %d", s, got, r.Err(), e)
		}
	}
}

// P13.2: as many events as a past may have that is read.
func TestPastMany(t *testing.T) {
	var p api.Past
	for i := range 4096 {
		p.Events = append(p.Events, put(dot(1, i+1), rising(2, i+1, i%3)...))
	}
	r := coder.Read(past.Put(nil, p))
	if got := past.Read(r); !samePast(got, p) || r.End() != api.OK {
		t.Error("4096 are not read", r.End())
	}
	p.Events = append(p.Events, put(dot(1, 4097)))
	r = coder.Read(past.Put(nil, p))
	if got := past.Read(r); !samePast(got, api.Past{}) || r.Err() != api.ELONG {
		t.Error("4097 are read", r.Err())
	}
}

// P13.2: a reader that had an error, or is none.
func TestReadOfFailed(t *testing.T) {
	for _, c := range []struct {
		r *coder.In
		e api.Errno
	}{{nil, api.ENIL}, {&coder.In{}, api.ENIL}, {coder.Read(unhex("0000" + written[0].want)), api.ESUM}} {
		c.r.Fail(api.ESUM)
		if got := past.ReadEvent(c.r); !same([]api.Event{got}, []api.Event{{}}) || c.r.Err() != c.e {
			t.Error(got, c.r.Err())
		}
		if got := past.ReadEvents(c.r, 9); len(got) != 0 || c.r.Err() != c.e {
			t.Error(got, c.r.Err())
		}
		if got := past.Read(c.r); !samePast(got, api.Past{}) || c.r.Err() != c.e {
			t.Error(got, c.r.Err())
		}
	}
}

// P13.2: what is written is read, of any events that may be.
func TestBack(t *testing.T) {
	rnd := rand.New(rand.NewSource(8))
	met := 0
	for range 3000 {
		p := somePast(rnd)
		p.Events = slices.DeleteFunc(p.Events, func(e api.Event) bool { return docs.Check(e) != api.OK })
		for rep := range p.Floor {
			p.Floor[rep] = max(p.Floor[rep], 0)
		}
		met += len(p.Events)
		r := coder.Read(past.Put(past.Put(nil, p), p))
		if first, second := past.Read(r), past.Read(r); !samePast(first, p) || !samePast(second, p) || r.End() != api.OK {
			t.Fatalf("%v is read as %v, %v", p, first, second)
		}
	}
	if met < 1000 {
		t.Error("too few events", met)
	}
}

// P13.2: the bytes are new memory, also where nothing is put behind them.
func TestBytesMemory(t *testing.T) {
	l := roomy([]api.Event{written[2].e, written[0].e})
	was := whole(l)
	puts := []func(b []byte) []byte{
		func(b []byte) []byte { return past.PutEvent(b, l[0]) },
		func(b []byte) []byte { return past.PutEvent(b, api.Event{}) },
		func(b []byte) []byte { return past.PutEvents(b, l) },
		func(b []byte) []byte { return past.PutEvents(b, nil) },
		func(b []byte) []byte { return past.Put(b, api.Past{Events: l}) },
		func(b []byte) []byte { return past.Put(b, api.Past{}) },
	}
	for i, put := range puts {
		for _, n := range []int{0, 3} {
			room := bytes.Repeat([]byte{9}, 600)
			got, again := put(room[:n]), put(room[:n])
			want := slices.Clone(again)
			got = got[:cap(got)]
			for i := range got {
				got[i] = 55
			}
			if !bytes.Equal(again, want) || !bytes.Equal(room, bytes.Repeat([]byte{9}, 600)) {
				t.Errorf("%d: memory is shared, or was changed", i)
			}
			for i := range room {
				room[i] = 1
			}
			if !bytes.Equal(again, want) {
				t.Errorf("%d: an answer is changed with what was handed in", i)
			}
		}
	}
	if !same(whole(l), was) {
		t.Error("the events were changed")
	}
	b := past.Put(nil, api.Past{Events: l})
	first, second := past.Read(coder.Read(b)), past.Read(coder.Read(b))
	spoil(second.Events)
	clear(b)
	if !same(first.Events, l) {
		t.Error("what was read shares memory")
	}
}
