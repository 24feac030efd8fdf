package script_test

import (
	"math"
	"math/rand"
	"slices"
	"strings"
	"testing"

	"scholia/api"
	"scholia/script"
)

// P29.1, P29.2: the chapter's example.
func TestExample(t *testing.T) {
	isLine(t, api.Step{Kind: api.SPut, Doc: "a", Field: 1, Text: "red fox"}, "put 0 a 1 red%20fox")
}

// P29.1, P29.2: a step of each kind, with all that it has, with nothing, and with the least and the greatest numbers.
func TestLines(t *testing.T) {
	if len(written) != 16 {
		t.Fatal(len(written))
	}
	for _, w := range written {
		isLine(t, w.x, w.line)
		for _, v := range []int{-1, 0, 10, 1 << 30} {
			x := w.x
			x.Keep = slices.Clone(x.Keep)
			for _, n := range append(numbers(&x), each(x.Keep)...) {
				if *n != 0 {
					*n = v
				}
			}
			line, e := script.Line(x)
			if e != api.OK {
				t.Fatal(x, e)
			}
			isLine(t, x, line)
		}
	}
	for _, c := range []struct {
		x    api.Step
		line string
	}{
		{api.Step{Kind: api.SPut}, "put 0 % 0 %"},
		{api.Step{Kind: api.SPut, Rep: -1, Doc: "% a", Field: 1 << 30, Text: "\xff"}, "put -1 %25%20a 1073741824 %ff"},
		{api.Step{Kind: api.SDrop}, "drop 0 %"},
		{api.Step{Kind: api.SSend, Rep: 63, To: -1}, "send 63 -1"},
		{api.Step{Kind: api.SSpoil}, "spoil 0 0 0 0 0"},
		{api.Step{Kind: api.SCrash}, "crash 0 0 0"},
		{api.Step{Kind: api.SCrash, X: -1}, "crash 0 -1 0"},
		{api.Step{Kind: api.SCrash, Keep: []int{0, 0, -1, 1 << 30}}, "crash 0 0 0 0 0 -1 1073741824"},
		{api.Step{Kind: api.SFuse, Rep: 2, N: -1}, "fuse 2 -1"},
		{api.Step{Kind: api.SQuery}, "query 0 0 %"},
		{api.Step{Kind: api.SQuery, N: 20, Text: "%"}, "query 0 20 %25"},
	} {
		isLine(t, c.x, c.line)
	}
}

// P29.2: a step that keeps no pages has one line, however that is written.
func TestKeepNone(t *testing.T) {
	for _, w := range written {
		x := w.x
		x.Keep = []int{}
		y := w.x
		y.Keep = nil
		line, e := script.Line(x)
		other, e2 := script.Line(y)
		if e != api.OK || e2 != api.OK || line != other || !script.Same(x, y) {
			t.Error(x, e, line, e2, other)
		}
	}
	if x, ok := script.Read("crash 0 1 2"); !ok || x.Keep != nil {
		t.Error(x, ok)
	}
}

// P29.2: steps without a line.
func TestNoLine(t *testing.T) {
	for _, kind := range []int{0, -1, 17, 18, 1 << 30, math.MaxInt, math.MinInt} {
		noLine(t, api.Step{Kind: kind})
		noLine(t, api.Step{Kind: kind, Rep: 1})
	}
	noLine(t, api.Step{})
	for _, w := range written {
		for i, n := range numbers(&w.x) {
			for _, v := range []int{-2, 1<<30 + 1, math.MaxInt, math.MinInt} {
				x := w.x
				*numbers(&x)[i] = v
				noLine(t, x)
			}
			if *n == 0 { // it does not have that
				for _, v := range []int{1, -1, 1 << 30} {
					x := w.x
					*numbers(&x)[i] = v
					noLine(t, x)
				}
			}
		}
		for _, s := range []string{"a", " ", "\x00"} {
			if x := w.x; x.Doc == "" {
				x.Doc = s
				noLine(t, x)
			}
			if x := w.x; x.Text == "" {
				x.Text = s
				noLine(t, x)
			}
		}
		if x := w.x; x.Keep == nil {
			for _, keep := range [][]int{{0}, {1, 2}} {
				x.Keep = keep
				noLine(t, x)
			}
		} else {
			for _, v := range []int{-2, 1<<30 + 1, math.MaxInt, math.MinInt} {
				x.Keep = []int{1, v}
				noLine(t, x)
			}
		}
	}
}

// P29.1, P29.2: a line has 240 bytes at most.
func TestLong(t *testing.T) {
	for _, w := range written {
		for _, add := range []func(x *api.Step){
			func(x *api.Step) { x.Doc += "a" }, func(x *api.Step) { x.Text += "a" }, func(x *api.Step) { x.Text += " " }, func(x *api.Step) { x.Keep = append(x.Keep, 1) }, func(x *api.Step) { x.Keep = append(x.Keep, 999) },
		} {
			x, y := w.x, w.x
			if add(&y); !mayStand(y) {
				continue
			}
			line := w.line
			for range 300 {
				add(&x)
				got, e := script.Line(x)
				if e != api.OK {
					break
				}
				line = got
				isLine(t, x, got)
			}
			if len(line) > 240 || len(line) < 237 {
				t.Errorf("%q: %d bytes", line, len(line))
			}
			noLine(t, x)
		}
	}
	for n, want := range map[int]bool{239: true, 240: true, 241: false, 242: false, 10000: false} {
		line := "query 0 5 " + strings.Repeat("a", n-10)
		x, ok := script.Read(line)
		if ok != want || !ok && !isNone(x) || ok && len(x.Text) != n-10 {
			t.Error(n, ok)
		}
		text := strings.Repeat("a", n-10)
		if got, e := script.Line(api.Step{Kind: api.SQuery, N: 5, Text: text}); want != (e == api.OK && got == line) || !want && (got != "" || e != api.EARG) {
			t.Error(n, e)
		}
	}
	// The quote counts, not the text: 76 blanks and two letters are 240 bytes.
	isLine(t, api.Step{Kind: api.SQuery, N: 5, Text: strings.Repeat(" ", 76) + "ab"}, "query 0 5 "+strings.Repeat("%20", 76)+"ab")
	noLine(t, api.Step{Kind: api.SQuery, N: 5, Text: strings.Repeat(" ", 77)})
	noLine(t, api.Step{Kind: api.SQuery, Text: strings.Repeat(" ", 1<<20)})
	noLine(t, api.Step{Kind: api.SPut, Doc: strings.Repeat("a", 1<<20)})
	noLine(t, api.Step{Kind: api.SCrash, Keep: make([]int, 1<<20)})
}

// wrong is lines that no step has.
var wrong = []string{
	"", " ", "\n", "put", "put ", "put 0", "put 0 a", "put 0 a 1", "put 0 a 1 ", "put 0  1 red", "put 0 a 1 red ", " put 0 a 1 red", "put  0 a 1 red", "put 0 a  1 red",
	"put 0 a 1 red fox", "put 0 a 1 red%", "put 0 a 1 %72ed", "put 0 a 1 red\n", "put 0 a 1 r\xc3\xa9", "put 0 % 1 %%", "put a 0 1 red", "put 0 a b red", "Put 0 a 1 red", "PUT 0 a 1 red", "pu 0 a 1 red", "puts 0 a 1 red",
	"sync", "sync ", "sync 00", "sync 01", "sync -0", "sync +0", "sync -", "sync +", "sync -2", "sync -01", "sync 1073741825", "sync 4294967296", "sync 18446744073709551616", "sync 99999999999999999999999", "sync -9223372036854775808",
	"sync 0x1", "sync 1_0", "sync 1e3", "sync 1.0", "sync 0.", "sync a", "sync %", "sync %30", "sync ٣", "sync 0 0", "sync 0 ", "sync  0", "sync 0\n", "sync 0\r", "sync\t0", "\tsync 0", "sync\n0", "sync 0\x00",
	"send 0", "send 0 1 2", "deliver 0 1", "deliver 0 1 2 3", "lose 0 1", "double 0 1", "spoil 0 1 2 3", "spoil 0 1 2 3 4 5", "spoil 0 1 2 3 -2",
	"crash", "crash 0", "crash 0 -1", "crash 0 -1 0 ", "crash 0 -1 0  1", "crash 0 -1 0 a", "crash 0 -1 0 1 01", "crash 0 -1 0 -2", "crash 0 -1 0 1073741825", "crash 0 -1 0 1 %",
	"fuse 0", "fuse 0 1 2", "query 0 5", "query 0 5 ", "query 0 5 red fox", "query 5 red", "query 0 red 5", "drop 0", "drop 0 ", "drop 0 a b", "start", "flush x", "compact 0 0", "collect", "save",
	"none", "none 0", "0", "1 0", "% 0", "%", "cluster 2 60", "check", "show 0", "calm 3", "-1", "put%200", "\x00", "sync 0\nsync 0", "sync 0;",
}

// P29.2: lines that no step has are not read.
func TestReadWrong(t *testing.T) {
	for _, line := range wrong {
		if x, ok := script.Read(line); ok || !isNone(x) {
			t.Errorf("%q: %v, %v", line, x, ok)
		}
	}
}

// P29.4: what is written is read, and what is read has that line; which steps have one the chapter's table tells.
func TestBack(t *testing.T) {
	rnd := rand.New(rand.NewSource(29))
	had := 0
	for range 50000 {
		x := some(rnd)
		line, e := script.Line(x)
		if want := mayStand(x); e == api.OK != want && (e == api.OK || len(script.Quote(x.Text))+len(script.Quote(x.Doc)) < 100) {
			t.Fatalf("%v: %d, not %v", x, e, want)
		}
		if e != api.OK {
			noLine(t, x)
			continue
		}
		had++
		if got, ok := script.Read(line); !ok || !same(got, x) || !script.Same(got, x) || len(line) > 240 {
			t.Fatalf("%v: %q: %v, %v", x, line, got, ok)
		}
		b := []byte(line)
		for range 1 + rnd.Intn(2) {
			at, c := rnd.Intn(len(b)), " %0125afz-+\n~"[rnd.Intn(13)]
			switch rnd.Intn(3) {
			case 0:
				b[at] = c
			case 1:
				b = slices.Insert(b, at, c)
			case 2:
				if b = slices.Delete(b, at, at+1); len(b) == 0 {
					b = []byte(" ")
				}
			}
		}
		got, ok := script.Read(string(b))
		if back, e := script.Line(got); ok && (e != api.OK || back != string(b)) || !ok && !isNone(got) {
			t.Fatalf("%q: %v, %v: %q, %d", b, got, ok, back, e)
		}
	}
	if had < 10000 {
		t.Fatal(had)
	}
}

// P29.2: steps that are the same, and others.
func TestSame(t *testing.T) {
	x := api.Step{Kind: 1, Rep: 2, To: 3, N: 4, X: 5, At: 6, Doc: "a", Field: 7, Text: "b", Keep: []int{8, 9}}
	if y := x; !script.Same(x, y) || !script.Same(api.Step{}, api.Step{Keep: []int{}}) {
		t.Error("the same")
	}
	for _, change := range []func(y *api.Step){
		func(y *api.Step) { y.Kind = 2 }, func(y *api.Step) { y.Rep = 0 }, func(y *api.Step) { y.To = -3 }, func(y *api.Step) { y.N = math.MaxInt }, func(y *api.Step) { y.X = 6 },
		func(y *api.Step) { y.At = 5 }, func(y *api.Step) { y.Doc = "" }, func(y *api.Step) { y.Doc = "b" }, func(y *api.Step) { y.Field = 0 }, func(y *api.Step) { y.Text = "a" },
		func(y *api.Step) { y.Keep = nil }, func(y *api.Step) { y.Keep = []int{8} }, func(y *api.Step) { y.Keep = []int{9, 8} }, func(y *api.Step) { y.Keep = []int{8, 9, 0} }, func(y *api.Step) { y.Keep = []int{8, 9, 9} },
	} {
		y := x
		if change(&y); script.Same(x, y) || script.Same(y, x) || !script.Same(y, y) {
			t.Error(y)
		}
	}
}

// Nothing that is handed in changes, or is handed out again.
func TestMemory(t *testing.T) {
	room := []int{1, 2, 3, 4}
	x := api.Step{Kind: api.SCrash, Keep: room[:2]}
	line, _ := script.Line(x)
	script.Write([]api.Step{x, x})
	if !slices.Equal(room, []int{1, 2, 3, 4}) || line != "crash 0 0 0 1 2" {
		t.Error(room, line)
	}
	a, _ := script.Read(line)
	b, _ := script.Read(line)
	a.Keep = append(a.Keep[:1], 7)
	if c, _ := script.Read(line); !same(b, x) || !same(c, x) {
		t.Error(b, c)
	}
	l, _, _ := script.Parse(line + "\n" + line)
	l[0].Keep[0] = 9
	_ = append(l[0].Keep, 9)
	if !same(l[1], x) {
		t.Error(l[1])
	}
}
