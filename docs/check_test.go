package docs_test

import (
	"math"
	"slices"
	"strings"
	"testing"

	"scholia/api"
	"scholia/docs"
)

// P12.1: each byte alone, and at each place of a name.
func TestNameBytes(t *testing.T) {
	const may = "abcdefghijklmnopqrstuvwxyz0123456789-"
	for c := range 256 {
		sign := string([]byte{byte(c)})
		want := strings.Contains(may, sign)
		if docs.Name(sign) != want {
			t.Errorf("%q is not %v", sign, want)
		}
		for at := range 12 {
			s := strings.Repeat("k", at) + sign + strings.Repeat("k", 11-at)
			if docs.Name(s) != want {
				t.Errorf("%q is not %v", s, want)
			}
		}
	}
}

// P12.1
func TestName(t *testing.T) {
	for s, want := range map[string]bool{
		"": false, "a": true, "-": true, "--0": true, "red-fox-2026": true, "red-fox-20261": false,
		"A": false, "a b": false, "a\n": false, "é": false, "a/b": false, "a_b": false, "a.b": false, "\x00": false, "\xff": false,
		strings.Repeat("z", 12): true, strings.Repeat("z", 13): false, strings.Repeat("z", 268): false, strings.Repeat("z", 1<<16): false,
	} {
		if docs.Name(s) != want {
			t.Errorf("%q is not %v", s, want)
		}
	}
}

// strangeFields: numbers of no field.
var strangeFields = []int{math.MinInt, math.MinInt + 1, -1 << 32, -2, -1, 5, 6, 64, 255, 256, 1 << 31, 1 << 32, 1<<32 + 1, math.MaxInt}

// P12.1
func TestText(t *testing.T) {
	const bad = "a\xc3"
	for _, c := range []struct {
		s    string
		want api.Errno
	}{
		{"", api.OK}, {"x", api.OK}, {"red fox\n\x00", api.OK}, {"é", api.OK}, {"\U0010ffff", api.OK},
		{strings.Repeat("x", 160), api.OK}, {strings.Repeat("é", 80), api.OK},
		{strings.Repeat("x", 161), api.ELONG}, {strings.Repeat("é", 80) + "x", api.ELONG}, {strings.Repeat("x", 1<<16), api.ELONG},
		{bad, api.EUTF}, {"\xff", api.EUTF}, {"\xed\xa0\x80", api.EUTF}, {"\xc0\x80", api.EUTF}, {strings.Repeat("x", 159) + "\xe9", api.EUTF},
		{strings.Repeat("x", 160) + "\xe9", api.ELONG}, {strings.Repeat("\xff", 161), api.ELONG}, {strings.Repeat("\xff", 160), api.EUTF},
	} {
		for field := 1; field <= 4; field++ {
			if e := docs.Text(field, c.s); e != c.want {
				t.Errorf("%q in %d: %d, not %d", c.s, field, e, c.want)
			}
		}
		want := api.EARG
		if c.s == "" {
			want = api.OK
		}
		if e := docs.Text(0, c.s); e != want {
			t.Errorf("%q in 0: %d, not %d", c.s, e, want)
		}
		for _, field := range strangeFields {
			if e := docs.Text(field, c.s); e != api.EARG {
				t.Errorf("%q in %d: %d", c.s, field, e)
			}
		}
	}
}

// A Put and a Drop that may be.
func somePut() api.Event {
	return api.Event{Dot: dot(3, 7), Time: 9, Kind: api.Put, Doc: "a", Field: 2, Text: "red", Gone: []api.Dot{dot(0, 1), dot(3, 6), dot(3, 8)}}
}

func someDrop() api.Event {
	return api.Event{Dot: dot(3, 7), Time: 9, Kind: api.Drop, Doc: "a", Gone: []api.Dot{dot(0, 1), dot(3, 6), dot(3, 8)}}
}

// rising is so many dots, from one on.
func rising(rep, from, n int) []api.Dot {
	var l []api.Dot
	for i := range n {
		l = append(l, dot(rep, from+i))
	}
	return l
}

// P12.1: what holds for Puts and Drops alike.
func TestCheckBoth(t *testing.T) {
	type change func(e *api.Event)
	may := []change{
		func(e *api.Event) {},
		func(e *api.Event) { e.Gone = nil },
		func(e *api.Event) { e.Gone = []api.Dot{} },
		func(e *api.Event) { e.Dot = dot(0, 2) },
		func(e *api.Event) { e.Dot = dot(63, api.MaxCount) },
		func(e *api.Event) { e.Time = 1 },
		func(e *api.Event) { e.Time = 1 << 40 },
		func(e *api.Event) { e.Doc = "z-0123456789" },
		func(e *api.Event) { e.Gone = rising(9, 1, 120) },
		func(e *api.Event) { e.Gone = []api.Dot{dot(0, 1), dot(63, api.MaxCount)} },
		func(e *api.Event) { e.Gone = []api.Dot{dot(0, api.MaxCount), dot(1, 1)} },
	}
	var not []change
	for _, d := range badDots {
		not = append(not, func(e *api.Event) { e.Dot = d })
		not = append(not, func(e *api.Event) { e.Gone = []api.Dot{d} })
		not = append(not, func(e *api.Event) { e.Gone = []api.Dot{dot(0, 5), d} })
		not = append(not, func(e *api.Event) { e.Gone = []api.Dot{d, dot(63, api.MaxCount)} })
	}
	for _, time := range []int{math.MinInt, -1, 0, 1<<40 + 1, 1 << 62, math.MaxInt} {
		not = append(not, func(e *api.Event) { e.Time = time })
	}
	for _, doc := range []string{"", "A", "a b", strings.Repeat("a", 13), "é", "\xff"} {
		not = append(not, func(e *api.Event) { e.Doc = doc })
	}
	for _, gone := range [][]api.Dot{
		{dot(3, 7)}, {dot(3, 6), dot(3, 7)}, {dot(3, 7), dot(3, 8)}, // itself
		{dot(0, 1), dot(0, 1)}, {dot(0, 2), dot(0, 1)}, {dot(1, 1), dot(0, 2)}, {dot(0, 1), dot(0, 2), dot(0, 2)}, {dot(0, 1), dot(1, 4), dot(1, 3), dot(2, 1)},
		rising(9, 1, 121), rising(9, 1, 5000),
	} {
		not = append(not, func(e *api.Event) { e.Gone = gone })
	}
	for _, kind := range []int{math.MinInt, -1, 0, 3, 4, 1 << 32, 1<<32 + 1, math.MaxInt} {
		not = append(not, func(e *api.Event) { e.Kind = kind })
	}
	for name, base := range map[string]func() api.Event{"put": somePut, "drop": someDrop} {
		for i, c := range may {
			e := base()
			c(&e)
			if got := docs.Check(e); got != api.OK {
				t.Errorf("%s %d: %v is told %d", name, i, e, got)
			}
		}
		for i, c := range not {
			e := base()
			c(&e)
			if got := docs.Check(e); got != api.EARG {
				t.Errorf("%s %d: %v is told %d", name, i, e, got)
			}
			// What may not be at all is told ahead of what is wrong with the text.
			e.Text = strings.Repeat("\xff", 161)
			if got := docs.Check(e); got != api.EARG {
				t.Errorf("%s %d: %v is told %d", name, i, e, got)
			}
		}
	}
}

// P12.1: of a Put Text's error, of a Drop EARG.
func TestCheckText(t *testing.T) {
	texts := []string{"", "x", strings.Repeat("x", 160), strings.Repeat("x", 161), "\xff", strings.Repeat("\xff", 161)}
	for _, field := range append([]int{0, 1, 2, 3, 4}, strangeFields...) {
		for _, s := range texts {
			put, drop := somePut(), someDrop()
			put.Field, put.Text, drop.Field, drop.Text = field, s, field, s
			if got, want := docs.Check(put), docs.Text(field, s); got != want {
				t.Errorf("a put of %q in %d: %d, not %d", s, field, got, want)
			}
			want := api.EARG
			if field == 0 && s == "" {
				want = api.OK
			}
			if got := docs.Check(drop); got != want {
				t.Errorf("a drop of %q in %d: %d, not %d", s, field, got, want)
			}
		}
	}
}

// P12.1: what is handed in stays as it is, the room behind it, too.
func TestCheckMemory(t *testing.T) {
	room := rising(0, 1, 20)
	was := slices.Clone(room)
	e := somePut()
	e.Gone = room[:10]
	if docs.Check(e) != api.OK || !slices.Equal(room, was) {
		t.Error("the event was changed")
	}
}
