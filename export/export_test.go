package export_test

import (
	"math/rand"
	"slices"
	"strings"
	"testing"

	"scholia/api"
	"scholia/docs"
	"scholia/export"
)

// doc is a short way to write one.
func doc(id string, text ...string) api.Doc {
	d := api.Doc{Id: id}
	copy(d.Text[:], text)
	return d
}

// written: documents, and their lines.
var written = []struct {
	l    []api.Doc
	want string
}{
	{nil, ""},
	{[]api.Doc{doc("a", "red fox")}, "doc a\ntitle red fox\n"},
	{[]api.Doc{doc("a")}, "doc a\n"},
	{[]api.Doc{doc("a", "t", "b", "g", "n")}, "doc a\ntitle t\nbody b\ntag g\nnote n\n"},
	{[]api.Doc{doc("a", "", "b", "", "n")}, "doc a\nbody b\nnote n\n"},
	{[]api.Doc{doc("b", "", "", "g"), doc("a"), doc("b"), doc("0-9-az-01234", "x")}, "doc b\ntag g\ndoc a\ndoc b\ndoc 0-9-az-01234\ntitle x\n"},
	{[]api.Doc{doc("a", "one\ntwo\n", `\`, `\n`, "\n")}, "doc a\ntitle one\\ntwo\\n\nbody \\\\\ntag \\\\n\nnote \\n\n"},
	{[]api.Doc{doc("a", `\\n`+"\n\\", " red  ", "\r\t\x00", "doc b")}, "doc a\ntitle \\\\\\\\n\\n\\\\\nbody  red  \ntag \r\t\x00\nnote doc b\n"},
	{[]api.Doc{doc("a", "é\U0010ffff", strings.Repeat("\n", 160), strings.Repeat("é", 80))}, "doc a\ntitle é\U0010ffff\nbody " + strings.Repeat(`\n`, 160) + "\ntag " + strings.Repeat("é", 80) + "\n"},
}

// P35.1, P35.2, P35.3
func TestLines(t *testing.T) {
	for _, c := range written {
		if got := export.Write(c.l); got != c.want {
			t.Errorf("%q: %q, not %q", c.l, got, c.want)
		}
		if got, at, e := export.Read(c.want); e != api.OK || at != 0 || !slices.Equal(got, c.l) {
			t.Errorf("%q: %q, line %d, error %d", c.want, got, at, e)
		}
	}
}

// P35.1: documents that may not be are left out, all of them, and nothing else is.
func TestWriteWrong(t *testing.T) {
	long := strings.Repeat("x", 161)
	l := []api.Doc{doc("a", "first")}
	for _, id := range []string{"", "A", "a b", "a\n", "é", "\xff", strings.Repeat("a", 13)} {
		l = append(l, doc(id, "x"), doc(id))
	}
	for field := range 4 {
		for _, text := range []string{long, "\xff", "ok\xc3", strings.Repeat("\xff", 161)} {
			d := doc("b", "p", "q", "r", "s")
			d.Text[field] = text
			l = append(l, d)
		}
	}
	l = append(l, doc("b", strings.Repeat("x", 160)))
	if got, want := export.Write(l), "doc a\ntitle first\ndoc b\ntitle "+strings.Repeat("x", 160)+"\n"; got != want {
		t.Errorf("%q, not %q", got, want)
	}
}

// P35.1: as many as there are.
func TestWriteMany(t *testing.T) {
	text := strings.Repeat("x", 160)
	l := slices.Repeat([]api.Doc{doc("a", text, text, text, text)}, 5000)
	if got := export.Write(l); got != strings.Repeat("doc a\ntitle "+text+"\nbody "+text+"\ntag "+text+"\nnote "+text+"\n", 5000) {
		t.Error(len(got))
	}
}

// P35.2: lines that can't stand alone, as the first ones, or behind a whole document.
func TestReadWrong(t *testing.T) {
	long := strings.Repeat("x", 161)
	for _, line := range []string{
		"\n", " \n", "doc\n", "doc \n", "doc a b\n", "doc  a\n", "doc a \n", " doc a\n", "doc A\n", "doc é\n", "doc \xff\n", "doc a\r\n", "doc\ta\n", "doca\n", "Doc a\n",
		"doc " + strings.Repeat("a", 13) + "\n", "doc a\x00\n",
		"title\n", "title \n", "titlex\n", "Title x\n", " title x\n", "title\tx\n", "body \n", "tag \n", "note \n", "tags x\n", "notes x\n", "text x\n", "x\n", "doc:a\n", "1 x\n",
		"title \\\n", "title x\\\n", "title \\x\n", "title \\N\n", "title \\r\n", "title a\\ b\n", "title \\\\\\\n", "title \\n\\\n",
		"title " + long + "\n", "title " + strings.Repeat(`\n`, 161) + "\n", "title \xff\n", "note \xc3\n", "title " + strings.Repeat("\\\\", 161) + "\n",
		"doc a", "title x", "doc", "d", " ", "\x00", "\xff", "body x\\n",
	} {
		for _, front := range []string{"", "doc b\n", "doc b\ntitle x\nbody x\ntag x\nnote x\ndoc c\n"} {
			for _, behind := range []string{"", "doc d\n", "\n", "nonsense"} {
				if behind != "" && !strings.HasSuffix(line, "\n") {
					continue
				}
				want := strings.Count(front, "\n") + 1
				if got, at, e := export.Read(front + line + behind); e != api.ELINE || at != want || len(got) != 0 {
					t.Errorf("%q: %q, line %d, error %d; not %d", front+line+behind, got, at, e, want)
				}
			}
		}
	}
}

// P35.2: fields without a document ahead, twice, or in another order.
func TestReadPlace(t *testing.T) {
	for s, want := range map[string]int{
		"title x\n":                                      1,
		"note x\ndoc a\n":                                1,
		"doc a\ntitle x\ntitle x\n":                      3,
		"doc a\nbody x\ntitle x\n":                       3,
		"doc a\nnote x\nnote y\n":                        3,
		"doc a\nnote x\ntag y\n":                         3,
		"doc a\ntitle x\ntag x\nbody x\nnote x\n":        4,
		"doc a\ntag x\ndoc b\ntitle y\nbody y\nbody z\n": 6,
		"doc a\ndoc b\n\n":                               3,
		"doc a\ntitle x\n\nbody x\n":                     3,
		"doc a\ntitle x\nbody x\ndoc b":                  4,
		"doc a\ntitle x\nbody \ntitle x\n":               3,
		"\ndoc a\n":                                      1,
		"doc a\n\n":                                      2,
		"doc a\ntitle x\r\nbody y\nbody z\n":             4,
	} {
		if got, at, e := export.Read(s); e != api.ELINE || at != want || len(got) != 0 {
			t.Errorf("%q: %q, line %d, error %d; not %d", s, got, at, e, want)
		}
	}
	// A field of the document ahead is none of the next one's.
	if got, _, e := export.Read("doc a\nnote x\ndoc b\ntitle y\n"); e != api.OK || !slices.Equal(got, []api.Doc{doc("a", "", "", "", "x"), doc("b", "y")}) {
		t.Error(got, e)
	}
}

// P35.2: a line that does not end is told, wherever it is cut off.
func TestReadCut(t *testing.T) {
	for _, c := range written {
		for k := range len(c.want) {
			s := c.want[:k]
			got, at, e := export.Read(s)
			if s == "" || s[k-1] == '\n' {
				if e != api.OK || at != 0 || export.Write(got) != s {
					t.Errorf("%q: %q, line %d, error %d", s, got, at, e)
				}
				continue
			}
			if want := strings.Count(s, "\n") + 1; e != api.ELINE || at != want || len(got) != 0 {
				t.Errorf("%q: %q, line %d, error %d; not %d", s, got, at, e, want)
			}
		}
	}
}

// P35.2: how long it may be.
func TestReadLong(t *testing.T) {
	line := "doc a\n"
	s := strings.Repeat(line, 1<<16/len(line))
	rest := 1<<16 - len(s)
	s += "doc " + strings.Repeat("a", rest+len(line)-5) + "\n"
	s = s[len(line):]
	if len(s) != 1<<16 {
		t.Fatal(len(s))
	}
	if got, at, e := export.Read(s); e != api.OK || at != 0 || export.Write(got) != s {
		t.Error(len(got), at, e)
	}
	if got, at, e := export.Read("\n" + s[1:]); e != api.ELINE || at != 1 || len(got) != 0 {
		t.Error(len(got), at, e)
	}
	for _, long := range []string{s + "\n", "\n" + s, s + s, strings.Repeat("x", 1<<16+1), strings.Repeat(line, 1<<17)} {
		if got, at, e := export.Read(long); e != api.ELONG || at != 0 || len(got) != 0 {
			t.Error(len(got), at, e)
		}
	}
	if got, at, e := export.Read(strings.Repeat("x", 1<<16)); e != api.ELINE || at != 1 || len(got) != 0 {
		t.Error(len(got), at, e)
	}
	if got, at, e := export.Read(""); e != api.OK || at != 0 || len(got) != 0 {
		t.Error(got, at, e)
	}
}

// canStand tells by the words of the chapter how many of some lines can stand, and what they come to.
func canStand(s string) ([]api.Doc, int) {
	var l []api.Doc
	heads := []string{"doc", "title", "body", "tag", "note"}
	last, n := -1, 0
	for s != "" {
		line, rest, ended := strings.Cut(s, "\n")
		head, text, blank := strings.Cut(line, " ")
		at := slices.Index(heads, head)
		if !ended || !blank || at < 0 {
			break
		}
		if at == 0 {
			if !docs.Name(text) {
				break
			}
			l = append(l, api.Doc{Id: text})
		} else {
			// What Write makes of a text has one form: it is told by making it anew.
			text = strings.ReplaceAll(strings.ReplaceAll(strings.ReplaceAll(text, `\\`, "\x01"), `\n`, "\n"), "\x01", `\`)
			if last < 0 || last >= at || text == "" || docs.Text(at, text) != api.OK || export.Write([]api.Doc{doc("a", text)}) != "doc a\ntitle "+line[len(head)+1:]+"\n" {
				break
			}
			l[len(l)-1].Text[at-1] = text
		}
		last = at
		s = rest
		n++
	}
	return l, n
}

// P35.2: lines of many forms, in any order.
func TestReadAny(t *testing.T) {
	rnd := rand.New(rand.NewSource(1))
	pieces := []string{"doc a\n", "doc b\n", "doc a\n", "title x\n", "title x\n", "body red fox\n", "body \\n\n", "tag \\\\\n", "note y\n", "note y\n", "title \\\\n\n", "note \\", "\n", "doc B\n", "tag \n", "tag é\n", "body x"}
	good := 0
	for range 30000 {
		s := "doc a\n"
		for range rnd.Intn(7) {
			s += pieces[rnd.Intn(len(pieces))]
		}
		want, n := canStand(s)
		got, at, e := export.Read(s)
		if all := strings.Count(s, "\n"); n == all && strings.HasSuffix(s, "\n") {
			good++
			if e != api.OK || at != 0 || !slices.Equal(got, want) || export.Write(got) != s {
				t.Fatalf("%q: %q, line %d, error %d", s, got, at, e)
			}
		} else if e != api.ELINE || at != n+1 || len(got) != 0 {
			t.Fatalf("%q: %q, line %d, error %d; not %d", s, got, at, e, n+1)
		}
	}
	if good < 3000 {
		t.Error("too few good ones", good)
	}
}

// P35.2: whatever byte is turned, what is read is what these lines are written of.
func TestTurned(t *testing.T) {
	for _, c := range written {
		for at := range len(c.want) {
			for x := 1; x < 256; x++ {
				b := []byte(c.want)
				b[at] ^= byte(x)
				got, line, e := export.Read(string(b))
				if e == api.OK && line == 0 && export.Write(got) == string(b) {
					continue
				}
				if turned := strings.Count(string(b[:at]), "\n") + 1; e != api.ELINE || len(got) != 0 || line < turned || line > strings.Count(string(b), "\n")+1 {
					t.Fatalf("%q: %q, line %d, error %d", b, got, line, e)
				}
			}
		}
	}
}

// P35.3: what was written is read.
func TestBack(t *testing.T) {
	rnd := rand.New(rand.NewSource(2))
	signs := []string{"a", "b", "\n", "\\", "n", "\\n", " ", "é", "\U0001f98a", "\r", "\x00", "doc ", "title "}
	for range 3000 {
		var l []api.Doc
		for range rnd.Intn(5) {
			d := doc([]string{"a", "b", "c-1"}[rnd.Intn(3)])
			for field := range d.Text {
				for range rnd.Intn(8) * rnd.Intn(2) {
					d.Text[field] += signs[rnd.Intn(len(signs))]
				}
			}
			l = append(l, d)
		}
		was := slices.Clone(l)
		s := export.Write(l)
		got, at, e := export.Read(s)
		if e != api.OK || at != 0 || !slices.Equal(got, was) || !slices.Equal(l, was) {
			t.Fatalf("%q of %q: %q, line %d, error %d", s, was, got, at, e)
		}
	}
}

// P35.1, P35.2: what is handed in stays, and what is told is new memory.
func TestMemory(t *testing.T) {
	room := []api.Doc{doc("a", "x"), doc("B", "y"), doc("c"), doc("room")}
	was := slices.Clone(room)
	s := export.Write(room[:3])
	if s != "doc a\ntitle x\ndoc c\n" || !slices.Equal(room, was) {
		t.Error(s, room)
	}
	first, _, _ := export.Read(s)
	second, _, _ := export.Read(s)
	clear(second[:cap(second)])
	clear(room)
	if !slices.Equal(first, []api.Doc{doc("a", "x"), doc("c")}) || s != "doc a\ntitle x\ndoc c\n" {
		t.Error(first, s)
	}
}
