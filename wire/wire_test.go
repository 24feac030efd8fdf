package wire_test

import (
	"bytes"
	"encoding/hex"
	"math"
	"math/rand"
	"slices"
	"strings"
	"testing"

	"scholia/api"
	"scholia/coder"
	"scholia/docs"
	"scholia/dots"
	"scholia/frame"
	"scholia/past"
	"scholia/wire"
)

func unhex(s string) []byte {
	b, err := hex.DecodeString(s)
	if err != nil {
		panic(err)
	}
	return b
}

// dot is a short way to write one.
func dot(rep, n int) api.Dot { return api.Dot{Rep: rep, N: n} }

// put is a short way to write an event.
func put(d api.Dot, gone ...api.Dot) api.Event {
	return api.Event{Dot: d, Time: 5, Kind: api.Put, Doc: "a", Field: 1, Text: "x", Gone: gone}
}

// The bytes of the events that messages have.
var (
	putBytes  = "0001" + "05" + "01" + "0161" + "01" + "0178" + "00"
	dropBytes = "0203" + "07" + "02" + "0161" + "00" + "00" + "01" + "0001"
)

func drop() api.Event {
	return api.Event{Dot: dot(2, 3), Time: 7, Kind: api.Drop, Doc: "a", Gone: []api.Dot{dot(0, 1)}}
}

func ack() api.Msg {
	return api.Msg{Kind: api.MAck, From: 3, To: 0, Ack: api.Vector{1, 300}}
}

func delta() api.Msg {
	return api.Msg{Kind: api.MDelta, From: 0, To: 63, Ack: api.Vector{1}, Base: api.Vector{0, 0, 2}, Events: []api.Event{put(dot(0, 1)), drop()}}
}

func full() api.Msg {
	return api.Msg{Kind: api.MFull, From: 1, To: 2, Ack: api.Vector{1}, Floor: api.Vector{5, 1}, Events: []api.Event{drop(), put(dot(0, 1))},
		State: api.State{Seen: api.Vector{0, 9}, Live: []api.Write{{Dot: dot(1, 9), Time: 4, Doc: "b", Field: 2, Text: "red"}}}}
}

// bare is a full one that has nothing.
func bare() api.Msg {
	return api.Msg{Kind: api.MFull, From: 63, To: 62}
}

// written: messages, and their bytes, not sealed.
var written = []struct {
	m    func() api.Msg
	want string
}{
	{func() api.Msg { return api.Msg{Kind: api.MAck, To: 1} }, "01" + "00" + "01" + "00"}, // the chapter's example
	{ack, "01" + "03" + "00" + "02000000812b"},
	{delta, "02" + "00" + "3f" + "010000" + "010201" + "02" + putBytes + dropBytes},
	{full, "03" + "01" + "02" + "010000" + "010108" + "01" + "0109" + "04" + "0162" + "02" + "03726564" + "0200000400" + "02" + dropBytes + putBytes},
	{bare, "03" + "3f" + "3e" + "00" + "0000" + "00" + "00"},
}

// clone is a message in memory of its own.
func clone(m api.Msg) api.Msg {
	m.State.Live = slices.Clone(m.State.Live)
	m.Events = slices.Clone(m.Events)
	for i := range m.Events {
		m.Events[i].Gone = slices.Clone(m.Events[i].Gone)
	}
	return m
}

// same tells whether two messages are the same, number by number.
func same(a, b api.Msg) bool {
	if a.Kind != b.Kind || a.From != b.From || a.To != b.To || a.Ack != b.Ack || a.Base != b.Base || a.Floor != b.Floor || a.State.Seen != b.State.Seen || !slices.Equal(a.State.Live, b.State.Live) || len(a.Events) != len(b.Events) {
		return false
	}
	for i, x := range a.Events {
		y := b.Events[i]
		if x.Dot != y.Dot || x.Time != y.Time || x.Kind != y.Kind || x.Doc != y.Doc || x.Field != y.Field || x.Text != y.Text || !slices.Equal(x.Gone, y.Gone) {
			return false
		}
	}
	return true
}

// P14.2, P14.3
func TestBytes(t *testing.T) {
	for _, c := range written {
		m := c.m()
		want := frame.Seal(unhex(c.want))
		got, e := wire.Encode(m)
		if e != api.OK || !bytes.Equal(got, want) {
			t.Errorf("%v: %x, error %d; not %x", m, got, e, want)
		}
		if back, e := wire.Decode(want); e != api.OK || !same(back, m) {
			t.Errorf("%x: %v, error %d", want, back, e)
		}
		if wire.Check(m) != api.OK {
			t.Errorf("%v may not be", m)
		}
	}
}

// change is how a message may be changed, and whether it may be then.
type change struct {
	may bool
	do  func(m *api.Msg)
}

// vectors are changes of a vector of a message.
func vectors(of func(m *api.Msg) *api.Vector) []change {
	var l []change
	for _, rep := range []int{0, 1, 62, 63} {
		for _, n := range []int{math.MinInt, -1 << 32, -1, 0, 1, api.MaxCount, api.MaxCount + 1, 1 << 32, 1<<32 + 1, math.MaxInt} {
			l = append(l, change{n >= 0 && n <= api.MaxCount, func(m *api.Msg) { of(m)[rep] = n }})
		}
	}
	return l
}

// wrongEvents are events that may not be.
func wrongEvents() []api.Event {
	l := []api.Event{{}, put(dot(64, 1)), put(dot(-1, 1)), put(dot(0, 0)), put(dot(0, api.MaxCount+1)), put(dot(0, 1), dot(0, 1)), put(dot(0, 1), dot(2, 2), dot(2, 1)), put(dot(0, 1), dot(0, 0))}
	for _, c := range []func(e *api.Event){
		func(e *api.Event) { e.Kind = 3 }, func(e *api.Event) { e.Kind = 2 }, func(e *api.Event) { e.Time = 0 }, func(e *api.Event) { e.Time = 1<<40 + 1 },
		func(e *api.Event) { e.Doc = "A" }, func(e *api.Event) { e.Field = 5 }, func(e *api.Event) { e.Text = "\xff" }, func(e *api.Event) { e.Text = strings.Repeat("x", 161) },
	} {
		e := put(dot(0, 1))
		c(&e)
		l = append(l, e)
	}
	return l
}

// all are changes of any message.
func all() []change {
	var l []change
	for _, n := range []int{math.MinInt, -1, 64, 65, 1 << 32, 1<<32 + 5, math.MaxInt} {
		l = append(l, change{false, func(m *api.Msg) { m.From = n }}, change{false, func(m *api.Msg) { m.To = n }})
	}
	for from := range 64 {
		l = append(l, change{true, func(m *api.Msg) { m.From, m.To = from, (from+17)%64 }})
		l = append(l, change{false, func(m *api.Msg) { m.From, m.To = from, from }})
	}
	for _, kind := range []int{math.MinInt, -1, 0, 4, 5, 1<<32 + 1, math.MaxInt} {
		l = append(l, change{false, func(m *api.Msg) { m.Kind = kind }})
	}
	for _, e := range wrongEvents() {
		l = append(l, change{false, func(m *api.Msg) { m.Events = []api.Event{e} }})
		l = append(l, change{false, func(m *api.Msg) { m.Events = append(m.Events, e) }})
		l = append(l, change{false, func(m *api.Msg) { m.Events = append([]api.Event{e}, m.Events...) }})
	}
	return append(l, vectors(func(m *api.Msg) *api.Vector { return &m.Ack })...)
}

// many is so many events.
func many(n int) []api.Event {
	var l []api.Event
	for i := range n {
		l = append(l, put(dot(0, i+1)))
	}
	return l
}

// holds tells whether a message that was changed is told as it should be.
func holds(t *testing.T, m api.Msg, l []change) {
	t.Helper()
	for i, c := range l {
		x := clone(m)
		c.do(&x)
		want := api.OK
		if !c.may {
			want = api.EARG
		}
		if got := wire.Check(x); got != want {
			t.Errorf("%d: %v is told %d", i, x, got)
		}
		b, e := wire.Encode(x)
		if e != want || !c.may && len(b) != 0 {
			t.Errorf("%d: %v: %x, error %d", i, x, b, e)
		}
		if !c.may {
			continue
		}
		if back, e := wire.Decode(b); e != api.OK || !same(back, x) {
			t.Errorf("%d: %v is read as %v, error %d", i, x, back, e)
		}
	}
}

// P14.1, P14.3
func TestAck(t *testing.T) {
	holds(t, ack(), all())
	holds(t, ack(), []change{
		{true, func(m *api.Msg) { m.Events = []api.Event{} }},
		{true, func(m *api.Msg) { m.State.Live = []api.Write{} }},
		{true, func(m *api.Msg) { m.Ack = api.Vector{} }},
		{false, func(m *api.Msg) { m.Events = many(1) }},
		{false, func(m *api.Msg) { m.Base[0] = 1 }},
		{false, func(m *api.Msg) { m.Base[63] = 1 }},
		{false, func(m *api.Msg) { m.Base[63] = -1 }},
		{false, func(m *api.Msg) { m.Floor[0] = 1 }},
		{false, func(m *api.Msg) { m.Floor[63] = 1 }},
		{false, func(m *api.Msg) { m.State.Seen[0] = 1 }},
		{false, func(m *api.Msg) { m.State.Seen[63] = 1 }},
		{false, func(m *api.Msg) { m.State = full().State }},
		{false, func(m *api.Msg) { m.State.Live = make([]api.Write, 1) }},
		{false, func(m *api.Msg) { m.Kind = api.MDelta }},
		{true, func(m *api.Msg) { m.Kind = api.MFull }},
	})
}

// P14.1, P14.3
func TestDelta(t *testing.T) {
	holds(t, delta(), all())
	holds(t, delta(), vectors(func(m *api.Msg) *api.Vector { return &m.Base }))
	holds(t, delta(), []change{
		{true, func(m *api.Msg) { m.Base = api.Vector{} }},
		{true, func(m *api.Msg) { m.State.Live = []api.Write{} }},
		{true, func(m *api.Msg) { m.Events = many(1) }},
		{true, func(m *api.Msg) { m.Events = many(1024) }},
		{false, func(m *api.Msg) { m.Events = many(1025) }},
		{false, func(m *api.Msg) { m.Events = nil }},
		{false, func(m *api.Msg) { m.Events = []api.Event{} }},
		{true, func(m *api.Msg) { m.Events = []api.Event{drop(), drop(), put(dot(0, 1)), drop()} }}, // in any order, twice
		{false, func(m *api.Msg) { m.Floor[0] = 1 }},
		{false, func(m *api.Msg) { m.Floor[63] = 1 }},
		{false, func(m *api.Msg) { m.State.Seen[63] = 1 }},
		{false, func(m *api.Msg) { m.State = full().State }},
		{false, func(m *api.Msg) { m.State.Live = make([]api.Write, 1) }},
		{false, func(m *api.Msg) { m.Kind = api.MAck }},
		{false, func(m *api.Msg) { m.Kind = api.MFull }},
		{true, func(m *api.Msg) { m.Kind = api.MFull; m.Base = api.Vector{} }},
	})
}

// P14.1, P14.3
func TestFull(t *testing.T) {
	for _, m := range []api.Msg{full(), bare()} {
		holds(t, m, all())
		holds(t, m, vectors(func(m *api.Msg) *api.Vector { return &m.Floor }))
		holds(t, m, []change{
			{true, func(m *api.Msg) {}},
			{true, func(m *api.Msg) { m.Events = nil }},
			{true, func(m *api.Msg) { m.Events = many(1024) }},
			{false, func(m *api.Msg) { m.Events = many(1025) }},
			{true, func(m *api.Msg) { m.State = api.State{} }},
			{true, func(m *api.Msg) { m.State = full().State }},
			{true, func(m *api.Msg) { m.Floor = api.Vector{} }},
			{false, func(m *api.Msg) { m.Base[0] = 1 }},
			{false, func(m *api.Msg) { m.Base[63] = 1 }},
			{false, func(m *api.Msg) { m.Base[3] = -1 }},
			{false, func(m *api.Msg) { m.State.Seen[3] = -1 }},
			{false, func(m *api.Msg) { m.State.Seen[3] = api.MaxCount + 1 }},
			{false, func(m *api.Msg) { m.State = full().State; m.State.Seen[1] = 8 }},
			{false, func(m *api.Msg) { m.State = full().State; m.State.Live = slices.Repeat(m.State.Live, 2) }},
			{false, func(m *api.Msg) { m.State.Live = make([]api.Write, 1) }},
			{false, func(m *api.Msg) { m.Kind = api.MAck; m.State.Seen[0] = 1 }},
			{false, func(m *api.Msg) { m.Kind = api.MDelta; m.State.Seen[0] = 1 }},
		})
	}
	if wire.Check(api.Msg{}) != api.EARG {
		t.Error("a plain message may be")
	}
}

// P14.2: frame's error ahead of all others.
func TestDecodeFrame(t *testing.T) {
	for _, c := range written {
		b := frame.Seal(unhex(c.want))
		for k := range b {
			want := api.ESUM
			if k < 4 {
				want = api.ESHORT
			}
			if got, e := wire.Decode(b[:k]); e != want || !same(got, api.Msg{}) {
				t.Errorf("%x: %v, error %d, not %d", b[:k], got, e, want)
			}
		}
		for _, more := range [][]byte{{0}, {255}, make([]byte, 1000)} {
			if got, e := wire.Decode(slices.Concat(b, more)); e != api.ESUM || !same(got, api.Msg{}) {
				t.Errorf("%x and more: %v, error %d", b, got, e)
			}
		}
	}
	for _, b := range [][]byte{nil, {}, {1}, {1, 2, 3}} {
		if got, e := wire.Decode(b); e != api.ESHORT || !same(got, api.Msg{}) {
			t.Errorf("%x: %v, error %d", b, got, e)
		}
	}
}

// P14.4
func TestTurned(t *testing.T) {
	for _, c := range written {
		b := frame.Seal(unhex(c.want))
		for at := range b {
			for x := 1; x < 256; x++ {
				turned := slices.Clone(b)
				turned[at] ^= byte(x)
				if got, e := wire.Decode(turned); e != api.ESUM || !same(got, api.Msg{}) {
					t.Fatalf("%x: %v, error %d", turned, got, e)
				}
			}
		}
	}
}

// P14.2: sealed bytes that are no message's.
func TestDecodeForm(t *testing.T) {
	for _, c := range written {
		b := unhex(c.want)
		for k := range b {
			if got, e := wire.Decode(frame.Seal(b[:k])); e != api.EFORM || !same(got, api.Msg{}) {
				t.Errorf("%x: %v, error %d", b[:k], got, e)
			}
		}
		for _, more := range [][]byte{{0}, {1}, {255}, b} {
			if got, e := wire.Decode(frame.Seal(slices.Concat(b, more))); e != api.EFORM || !same(got, api.Msg{}) {
				t.Errorf("%x and %x: %v, error %d", b, more, got, e)
			}
		}
		// Whatever byte is turned ahead of the sealing, what is read has these bytes.
		for at := range b {
			for x := 1; x < 256; x++ {
				turned := slices.Clone(b)
				turned[at] ^= byte(x)
				m, e := wire.Decode(frame.Seal(turned))
				if e == api.EFORM && same(m, api.Msg{}) {
					continue
				}
				if back, wrong := wire.Encode(m); e != api.OK || wrong != api.OK || !bytes.Equal(back, frame.Seal(turned)) {
					t.Fatalf("%x: %v, error %d", turned, m, e)
				}
			}
		}
	}
	for _, s := range []string{
		"", "00" + "00" + "01" + "00", "04" + "00" + "01" + "00", "80" + "01" + "00" + "01" + "00", "ff0000000000000001" + "00" + "01" + "00",
		"01" + "00" + "00" + "00", "01" + "05" + "05" + "00", "01" + "40" + "01" + "00", "01" + "01" + "40" + "00",
		"01" + "ffffffffffffffffff" + "01" + "00", "ffffffffffffffffff" + "00" + "01" + "00",
		"01" + "00" + "01" + "0140" + "00", "01" + "00" + "01" + "0100" + "f040000000", // an Ack that may not be
		"02" + "00" + "01" + "00" + "00" + "00",                                    // a delta of no events
		"02" + "00" + "01" + "00" + "00" + "8401" + strings.Repeat(putBytes, 1025), // too many
		"02" + "00" + "01" + "00" + "00" + "01" + "0000" + putBytes[4:],            // an event that may not be
		"02" + "00" + "01" + "00" + "00" + "01" + putBytes[:6] + "03" + putBytes[8:],
		"03" + "00" + "01" + "00" + "0001" + "0001" + "01" + "0161" + "01" + "0178" + "00" + "00", // a state that can't be
	} {
		if got, e := wire.Decode(frame.Seal(unhex(s))); e != api.EFORM || !same(got, api.Msg{}) {
			t.Errorf("%s: %v, error %d", s, got, e)
		}
	}
}

// P14.2: all fields.
func TestSame(t *testing.T) {
	changes := []func(m *api.Msg){
		func(m *api.Msg) { m.Kind++ }, func(m *api.Msg) { m.From++ }, func(m *api.Msg) { m.To++ },
		func(m *api.Msg) { m.Ack[0]++ }, func(m *api.Msg) { m.Ack[63]++ }, func(m *api.Msg) { m.Base[0]++ }, func(m *api.Msg) { m.Base[63]++ },
		func(m *api.Msg) { m.Floor[0]++ }, func(m *api.Msg) { m.Floor[63]++ }, func(m *api.Msg) { m.State.Seen[0]++ }, func(m *api.Msg) { m.State.Seen[63]++ },
		func(m *api.Msg) { m.State.Live = append(m.State.Live, api.Write{}) }, func(m *api.Msg) { m.Events = append(m.Events, api.Event{}) },
	}
	for _, c := range written {
		m := c.m()
		if !wire.Same(m, clone(m)) || !wire.Same(m, m) {
			t.Errorf("%v is not itself", m)
		}
		l := changes
		if len(m.Events) > 0 {
			l = append(slices.Clone(l), func(m *api.Msg) { m.Events[1].Time++ }, func(m *api.Msg) { m.Events[0].Gone = []api.Dot{dot(5, 5)} }, func(m *api.Msg) { slices.Reverse(m.Events) })
		}
		if len(m.State.Live) > 0 {
			l = append(slices.Clone(l), func(m *api.Msg) { m.State.Live[0].Time++ }, func(m *api.Msg) { m.State.Live[0].Text += "x" })
		}
		for i, do := range l {
			x := clone(m)
			do(&x)
			if wire.Same(m, x) || wire.Same(x, m) {
				t.Errorf("%d: %v is %v", i, x, m)
			}
		}
		for _, other := range written {
			if o := other.m(); wire.Same(m, o) != same(m, o) {
				t.Errorf("%v and %v", m, o)
			}
		}
	}
	none := ack()
	none.Events, none.State.Live = []api.Event{}, []api.Write{}
	if !wire.Same(none, ack()) {
		t.Error("no events are not no events")
	}
}

// someMsg is a message that may be.
func someMsg(rnd *rand.Rand) api.Msg {
	vector := func() api.Vector {
		var v api.Vector
		for range rnd.Intn(6) {
			v[rnd.Intn(64)] = rnd.Intn(1 << rnd.Intn(31))
		}
		return v
	}
	m := api.Msg{Kind: 1 + rnd.Intn(3), From: rnd.Intn(64), Ack: vector()}
	m.To = (m.From + 1 + rnd.Intn(63)) % 64
	if m.Kind == api.MAck {
		return m
	}
	for i := range rnd.Intn(9) + 1 {
		e := put(dot(rnd.Intn(64), 1+rnd.Intn(1<<30)))
		if rnd.Intn(2) == 0 {
			e.Gone = []api.Dot{dot(3, 2+rnd.Intn(9)), dot(4, 1<<30-i)}
		}
		if docs.Check(e) == api.OK {
			m.Events = append(m.Events, e)
		}
	}
	if m.Kind == api.MDelta {
		m.Base = vector()
		return m
	}
	m.Floor = vector()
	for _, e := range m.Events {
		m.State, _ = docs.Apply(m.State, e)
	}
	if rnd.Intn(3) == 0 {
		m.Events = nil
	}
	return m
}

// P14.3
func TestBack(t *testing.T) {
	rnd := rand.New(rand.NewSource(1))
	for range 2000 {
		m := someMsg(rnd)
		if len(m.Events) == 0 && m.Kind == api.MDelta {
			continue
		}
		b, e := wire.Encode(m)
		if e != api.OK {
			t.Fatal(m, e)
		}
		back, e := wire.Decode(b)
		if e != api.OK || !same(back, m) || !wire.Same(back, m) {
			t.Fatalf("%v is read as %v, error %d", m, back, e)
		}
	}
}

// P14.2: the parts stand as their own chapters write them.
func TestParts(t *testing.T) {
	rnd := rand.New(rand.NewSource(2))
	for range 500 {
		m := someMsg(rnd)
		if wire.Check(m) != api.OK {
			continue
		}
		want := dots.Put(coder.Num(coder.Num(coder.Num(nil, m.Kind), m.From), m.To), m.Ack)
		switch m.Kind {
		case api.MDelta:
			want = past.PutEvents(dots.Put(want, m.Base), m.Events)
		case api.MFull:
			want = past.PutEvents(dots.Put(docs.Put(want, m.State), m.Floor), m.Events)
		}
		if got, e := wire.Encode(m); e != api.OK || !bytes.Equal(got, frame.Seal(want)) {
			t.Fatalf("%v: %x, not %x", m, got, want)
		}
	}
}

// P14.1, P14.2: nothing that is handed in or out is shared.
func TestMemory(t *testing.T) {
	for _, c := range written {
		m := c.m()
		m.Events = append(m.Events, put(dot(50, 1)))[:len(m.Events)]
		m.State.Live = append(m.State.Live, api.Write{Doc: "room"})[:len(m.State.Live)]
		was := clone(m)
		wire.Check(m)
		first, _ := wire.Encode(m)
		second, _ := wire.Encode(m)
		if !same(m, was) || m.Events[:len(m.Events)+1][len(m.Events)].Dot != dot(50, 1) || m.State.Live[:len(m.State.Live)+1][len(m.State.Live)].Doc != "room" {
			t.Error("the message, or the room behind its lists, was changed")
		}
		want := slices.Clone(first)
		second = second[:cap(second)]
		for i := range second {
			second[i] = 55
		}
		for i := range m.Events {
			clear(m.Events[i].Gone)
			m.Events[i].Text = "spoilt"
		}
		if !bytes.Equal(first, want) {
			t.Error("bytes share memory")
		}
		room := slices.Concat(first, bytes.Repeat([]byte{7}, 20))
		in := room[:len(first)]
		one, _ := wire.Decode(in)
		two, _ := wire.Decode(in)
		if !bytes.Equal(in, want) || !bytes.Equal(room[len(first):], bytes.Repeat([]byte{7}, 20)) {
			t.Error("the bytes, or the room behind them, were changed")
		}
		clear(room)
		for i := range two.Events {
			clear(two.Events[i].Gone[:cap(two.Events[i].Gone)])
		}
		clear(two.Events[:cap(two.Events)])
		clear(two.State.Live[:cap(two.State.Live)])
		if !same(one, was) {
			t.Error("messages share memory")
		}
	}
}
