package parse_test

import (
	"math/rand"
	"slices"
	"strings"
	"testing"

	"scholia/api"
	"scholia/parse"
)

// P22.1
func TestField(t *testing.T) {
	for name, want := range map[string]int{
		"title": 1, "body": 2, "tag": 3, "note": 4,
		"": 0, "Title": 0, "TITLE": 0, "titles": 0, "titl": 0, " title": 0, "title ": 0, "title:": 0, "any": 0, "1": 0, "0": 0, "notes": 0, "\xff": 0,
	} {
		if got := parse.Field(name); got != want {
			t.Errorf("%q: %d, not %d", name, got, want)
		}
	}
}

// P22.1, P22.2
func TestParse(t *testing.T) {
	red, fox, hen := word(0, "red"), word(0, "fox"), word(0, "hen")
	long := strings.Repeat("x", 20)
	for _, c := range []struct {
		s    string
		want api.Node
	}{
		{`red (fox | title:"blue run*")`, and(red, or(fox, phrase(1, tok("blue", 0), tok("run", 1))))},
		{"red", red}, {"  red  ", red}, {"RED", red}, {"running", word(0, "run")}, {"foxes", word(0, "foxe")}, {"École", word(0, "école")}, {"7", word(0, "7")},
		{"the", all}, {"The", all}, {long, word(0, long)}, {long + "x", all}, {strings.Repeat("é", 11), all}, {"title", word(0, "title")},

		{"red fox", and(red, fox)}, {"red  fox hen", and(red, fox, hen)}, {"red red", and(red, red)}, {"red the", and(red, all)},
		{"red|fox", or(red, fox)}, {"red | fox |hen", or(red, fox, hen)}, {"red fox|hen", or(and(red, fox), hen)}, {"red|fox hen", or(red, and(fox, hen))},
		{"(red)", red}, {"((red))", red}, {"( red fox )", and(red, fox)}, {"(red fox) hen", and(and(red, fox), hen)}, {"red(fox)hen", and(red, fox, hen)}, {"(red|fox)|hen", or(or(red, fox), hen)}, {"(red)(fox)", and(red, fox)},
		{"-red", not(red)}, {"- red", not(red)}, {"--red", not(not(red))}, {"- - -red", not(not(not(red)))}, {"-(red fox)", not(and(red, fox))}, {"red -fox", and(red, not(fox))}, {"red-fox", and(red, not(fox))}, {"-red fox", and(not(red), fox)}, {"-red|fox", or(not(red), fox)}, {"-the", not(all)},

		{"fo*", begin(0, "fo")}, {"FO*", begin(0, "fo")}, {"running*", begin(0, "running")}, {"the*", begin(0, "the")}, {long + "*", begin(0, long)}, {long + "x*", all}, {"fo*red", and(begin(0, "fo"), red)}, {"-fo*", not(begin(0, "fo"))}, {"title*", begin(0, "title")},

		{`""`, all}, {`" "`, all}, {`"the"`, all}, {`"the of"`, all}, {`"€"`, all}, {`"red"`, red}, {`"the red"`, red}, {`"red the"`, red}, {`"REDS"`, red},
		{`"red fox"`, phrase(0, tok("red", 0), tok("fox", 1))}, {`"the red of the fox"`, phrase(0, tok("red", 0), tok("fox", 3))}, {`"red ` + long + `x fox"`, phrase(0, tok("red", 0), tok("fox", 2))}, {`"red red red"`, phrase(0, tok("red", 0), tok("red", 1), tok("red", 2))},
		{`"red|(fox"`, phrase(0, tok("red", 0), tok("fox", 1))}, {`"title:red"`, phrase(0, tok("title", 0), tok("red", 1))}, {`"-red"`, red}, {`"red*"`, red}, {`"red""fox"`, and(red, fox)}, {`red"fox"hen`, and(red, fox, hen)}, {`" red "`, red},

		{"title:red", word(1, "red")}, {"body:red", word(2, "red")}, {"tag:red", word(3, "red")}, {"note:red", word(4, "red")}, {"title: red", word(1, "red")}, {" note:  red ", word(4, "red")},
		{"title:red fox", and(word(1, "red"), fox)}, {"title:fo*", begin(1, "fo")}, {`body:"red fox"`, phrase(2, tok("red", 0), tok("fox", 1))}, {"title:the", all}, {`title:""`, all},
		{"title:(red fox)", and(word(1, "red"), word(1, "fox"))}, {"title:(red|-fox)", or(word(1, "red"), not(word(1, "fox")))}, {"title:(red -(fo* | the))", and(word(1, "red"), not(or(begin(1, "fo"), all)))},
		{"title:body:red", word(2, "red")}, {"title:(red body:fox hen)", and(word(1, "red"), word(2, "fox"), word(1, "hen"))}, {"title:(body:(red tag:fox) hen)", and(and(word(2, "red"), word(3, "fox")), word(1, "hen"))}, {"-title:red", not(word(1, "red"))}, {"title:title", word(1, "title")}, {"red|title:fox|hen", or(red, word(1, "fox"), hen)},

		{"((((((red))))))", red}, {"------red", not(not(not(not(not(not(red))))))}, {"title:body:title:body:title:body:red", word(2, "red")}, {"-(-(tag:(red)))", not(not(word(3, "red")))},
		{"((((((red))))))((((((fox))))))", and(red, fox)}, {"------red|------fox", or(not(not(not(not(not(not(red)))))), not(not(not(not(not(not(fox)))))))}, {"tag:(tag:(tag:(red))) (fox)", and(word(3, "red"), fox)},
		{strings.Repeat(" ", 117) + "red", red}, {"red" + strings.Repeat(" ", 117), red}, {strings.Repeat("é", 60), all},
	} {
		got, e := parse.Parse(c.s)
		if e != api.OK || told(got) != told(c.want) {
			t.Errorf("%q: %s, error %d, not %s", c.s, told(got), e, told(c.want))
		}
		if !proper(got) || !parse.Same(got, c.want) {
			t.Errorf("%q: %s", c.s, told(got))
		}
	}
}

// P22.2
func TestErrors(t *testing.T) {
	for _, c := range []struct {
		s    string
		want api.Errno
	}{
		{strings.Repeat("x", 121), api.ELONG}, {strings.Repeat(" ", 121), api.ELONG}, {strings.Repeat("\xff", 121), api.ELONG}, {strings.Repeat("(", 121), api.ELONG}, {strings.Repeat("é", 60) + " ", api.ELONG}, {strings.Repeat("x", 1<<20), api.ELONG},
		{strings.Repeat("x", 120), api.OK}, {strings.Repeat("(", 120), api.EDEEP}, {strings.Repeat("\xff", 120), api.EUTF},
		{"\xff", api.EUTF}, {"red \xc3", api.EUTF}, {"\xed\xa0\x80", api.EUTF}, {`"` + "\xff" + `"`, api.EUTF}, {") \xff", api.EUTF}, {"(((((((\xff", api.EUTF},

		{"", api.ESYNTAX}, {" ", api.ESYNTAX}, {"()", api.ESYNTAX}, {"( )", api.ESYNTAX}, {"(", api.ESYNTAX}, {")", api.ESYNTAX}, {"(red", api.ESYNTAX}, {"red)", api.ESYNTAX}, {"(red))", api.ESYNTAX}, {"((red)", api.ESYNTAX}, {"red ) fox", api.ESYNTAX},
		{"|", api.ESYNTAX}, {"red|", api.ESYNTAX}, {"|red", api.ESYNTAX}, {"red||fox", api.ESYNTAX}, {"red | | fox", api.ESYNTAX}, {"(red|)", api.ESYNTAX}, {"(|red)", api.ESYNTAX}, {"-|red", api.ESYNTAX},
		{"-", api.ESYNTAX}, {"red -", api.ESYNTAX}, {"-)", api.ESYNTAX}, {"(-)", api.ESYNTAX}, {"- ", api.ESYNTAX},
		{`"`, api.ESYNTAX}, {`"red`, api.ESYNTAX}, {`red"`, api.ESYNTAX}, {`"red" "`, api.ESYNTAX}, {`"""`, api.ESYNTAX}, {`title:"`, api.ESYNTAX},
		{"*", api.ESYNTAX}, {"fo *", api.ESYNTAX}, {"fo**", api.ESYNTAX}, {"*fo", api.ESYNTAX}, {`"red"*`, api.ESYNTAX}, {"(red)*", api.ESYNTAX}, {"fo*:red", api.ESYNTAX}, {"title*:red", api.ESYNTAX},
		{":", api.ESYNTAX}, {":red", api.ESYNTAX}, {"title:", api.ESYNTAX}, {"title: ", api.ESYNTAX}, {"title :red", api.ESYNTAX}, {"Title:red", api.ESYNTAX}, {"fox:red", api.ESYNTAX}, {"titles:red", api.ESYNTAX}, {"title::red", api.ESYNTAX}, {"title:-red", api.ESYNTAX}, {"title:|red", api.ESYNTAX}, {"title:)", api.ESYNTAX}, {"title:*", api.ESYNTAX}, {`"title":red`, api.ESYNTAX}, {"titleé:red", api.ESYNTAX}, {"title:fox:red", api.ESYNTAX}, {"(title:)", api.ESYNTAX},
		{"red\tfox", api.ESYNTAX}, {"red\n", api.ESYNTAX}, {"\x00", api.ESYNTAX}, {"red, fox", api.ESYNTAX}, {"€", api.ESYNTAX}, {"red\u00a0fox", api.ESYNTAX}, {"×", api.ESYNTAX}, {"red+fox", api.ESYNTAX}, {"'red'", api.ESYNTAX},

		{"(((((((red)))))))", api.EDEEP}, {"-------red", api.EDEEP}, {"title:title:title:title:title:title:title:red", api.EDEEP}, {"-(title:-", api.ESYNTAX}, {"-(title:(-(red)))", api.OK}, {"-(title:(-(-red)))", api.EDEEP}, {"-(title:(-title:red))", api.OK}, {"-(title:(-title:(red)))", api.EDEEP},
		// The first error from left to right.
		{"((((((( )", api.EDEEP}, {"(((((((", api.EDEEP}, {"(((((( )", api.ESYNTAX}, {"(((((()(((((((", api.ESYNTAX}, {"fox:(((((((", api.ESYNTAX}, {"((((((title:red", api.EDEEP}, {"((((((fox:red", api.ESYNTAX}, {"((((((title :red", api.ESYNTAX}, {`"red -------fox`, api.ESYNTAX}, {"-------", api.EDEEP}, {"------", api.ESYNTAX}, {") -------red", api.ESYNTAX}, {"red | ((((((fox) -------", api.EDEEP}, {"((((((red|-fox))))))", api.EDEEP},
		// What was closed, or is over, is not open.
		{"((((((red)))))) -------fox", api.EDEEP}, {"((((((red)))))) ------fox", api.OK}, {"(((((red) (fox)))))", api.OK}, {"(((((-red (fox))))))", api.OK}, {"(((((-(red) fox)))))", api.EDEEP}, {"(((((title:red body:fox)))))", api.OK},
	} {
		got, e := parse.Parse(c.s)
		if e != c.want {
			t.Errorf("%.140q: error %d, not %d", c.s, e, c.want)
		}
		if e != api.OK && told(got) != told(api.Node{}) {
			t.Errorf("%.140q: %s with an error", c.s, told(got))
		}
	}
}

// P22.1, P22.2: whatever is put together by the grammar.
func TestMade(t *testing.T) {
	m := maker{rand.New(rand.NewSource(221))}
	kinds := map[int]int{}
	for range 30000 {
		s, want := m.any(0, 0)
		s += m.blanks()
		got, e := parse.Parse(s)
		if len(s) > 120 {
			if e != api.ELONG {
				t.Fatalf("%q: error %d", s, e)
			}
			continue
		}
		if e != api.OK || told(got) != told(want) || !parse.Same(got, want) || !proper(got) {
			t.Fatalf("%q: %s, error %d, not %s", s, told(got), e, told(want))
		}
		kinds[got.Kind]++
	}
	for kind := api.QAny; kind <= api.QNot; kind++ {
		if kinds[kind] < 100 {
			t.Errorf("kind %d came %d times", kind, kinds[kind])
		}
	}
}

// P22.2, P22.4: whatever the text.
func TestAnyText(t *testing.T) {
	rnd := rand.New(rand.NewSource(222))
	pieces := []string{"(", ")", "|", "-", `"`, ":", "*", " ", "red", "title", "note:", "(", "-", "title:", "the", "€", "(((", "---", "fox", ")))"}
	errors := map[api.Errno]int{}
	for range 100000 {
		var b strings.Builder
		for range rnd.Intn(16) {
			b.WriteString(pieces[rnd.Intn(len(pieces))])
		}
		s := b.String()
		got, e := parse.Parse(s)
		if e != fault(s) || e == api.OK && !proper(got) || e != api.OK && told(got) != told(api.Node{}) {
			t.Fatalf("%q: %s, error %d, not %d", s, told(got), e, fault(s))
		}
		errors[e]++
	}
	if errors[api.OK] < 1000 || errors[api.ESYNTAX] < 1000 || errors[api.EDEEP] < 1000 {
		t.Error(errors)
	}
	const signs = " (|)-\":*aT9\x00\xff\xc3\xa9\xe2\x82\xac"
	for range 100000 {
		b := make([]byte, rnd.Intn(12))
		for i := range b {
			b[i] = signs[rnd.Intn(len(signs))]
		}
		if got, e := parse.Parse(string(b)); e == api.OK && !proper(got) {
			t.Fatalf("%q: %s", b, told(got))
		}
	}
}

// P22.2: all texts of few pieces.
func TestShortTexts(t *testing.T) {
	pieces := []string{"(", ")", "|", "-", `"`, ":", "*", " ", "a", "tag"}
	texts := []string{""}
	for range 5 {
		var next []string
		for _, s := range texts {
			if _, e := parse.Parse(s); e != fault(s) {
				t.Fatalf("%q: error %d, not %d", s, e, fault(s))
			}
			for _, p := range pieces {
				next = append(next, s+p)
			}
		}
		texts = next
	}
}

// P22.3
func TestSame(t *testing.T) {
	base := func() api.Node {
		return and(word(1, "red"), or(phrase(0, tok("red", 0), tok("fox", 2)), not(begin(3, "fo"))), all)
	}
	if !parse.Same(base(), base()) || !parse.Same(api.Node{}, api.Node{}) {
		t.Error("not the same as itself")
	}
	empty := api.Node{Terms: []api.Token{}, Kids: []api.Node{}}
	if !parse.Same(empty, api.Node{}) || !parse.Same(api.Node{}, empty) {
		t.Error("nil and empty ones mean the same")
	}
	for i, change := range []func(n *api.Node){
		func(n *api.Node) { n.Kind = api.QOr },
		func(n *api.Node) { n.Kind += 1 << 32 },
		func(n *api.Node) { n.Field = 1 },
		func(n *api.Node) { n.Field = -1 },
		func(n *api.Node) { n.Terms = []api.Token{{}} },
		func(n *api.Node) { n.Kids = nil },
		func(n *api.Node) { n.Kids = n.Kids[:2] },
		func(n *api.Node) { n.Kids = n.Kids[1:] },
		func(n *api.Node) { n.Kids = append(n.Kids, all) },
		func(n *api.Node) { n.Kids = append(n.Kids, api.Node{}) },
		func(n *api.Node) { n.Kids[0], n.Kids[2] = n.Kids[2], n.Kids[0] },
		func(n *api.Node) { n.Kids[0].Field = 2 },
		func(n *api.Node) { n.Kids[0].Kind = api.QPrefix },
		func(n *api.Node) { n.Kids[0].Terms[0].Term = "Red" },
		func(n *api.Node) { n.Kids[0].Terms[0].At = 1 },
		func(n *api.Node) { n.Kids[0].Terms = nil },
		func(n *api.Node) { n.Kids[0].Terms = append(n.Kids[0].Terms, tok("fox", 1)) },
		func(n *api.Node) { n.Kids[0].Kids = []api.Node{{}} },
		func(n *api.Node) { n.Kids[1].Kids[0].Terms[1].At = 1 },
		func(n *api.Node) { n.Kids[1].Kids[0].Terms[1].Term = "red" },
		func(n *api.Node) { n.Kids[1].Kids[0].Field = 4 },
		func(n *api.Node) { n.Kids[1].Kids[1].Kids[0].Terms[0].Term = "f" },
		func(n *api.Node) { n.Kids[1].Kids[1].Kids[0].Kids = []api.Node{all} },
		func(n *api.Node) { n.Kids[1].Kids[1].Kids = nil },
		func(n *api.Node) { n.Kids[2].Kind = 0 },
	} {
		other := base()
		change(&other)
		if parse.Same(base(), other) || parse.Same(other, base()) {
			t.Errorf("change %d is not seen", i)
		}
	}
}

// P22.3
func TestLeaves(t *testing.T) {
	red, fo, run := word(1, "red"), begin(0, "fo"), phrase(2, tok("run", 0), tok("red", 4))
	odd := api.Node{Kind: api.QTerm, Field: -7, Terms: []api.Token{tok("", -1), tok("x", 5)}, Kids: []api.Node{red}}
	bare := odd
	bare.Kids = nil
	for _, c := range []struct {
		n    api.Node
		want []api.Node
	}{
		{red, []api.Node{red}}, {fo, []api.Node{fo}}, {run, []api.Node{run}},
		{all, nil}, {api.Node{}, nil}, {not(red), nil}, {and(), nil}, {or(), nil}, {not(not(red)), nil},
		{and(red, fo), []api.Node{red, fo}}, {or(fo, red), []api.Node{fo, red}}, {and(red, red), []api.Node{red, red}},
		{and(red, not(fo), or(run, all, and(fo, not(and(red))), red)), []api.Node{red, run, fo, red}},
		{api.Node{Kind: api.QTerm}, []api.Node{{Kind: api.QTerm}}}, {api.Node{Kind: api.QPhrase, Field: 9}, []api.Node{{Kind: api.QPhrase, Field: 9}}},
		{odd, []api.Node{bare}}, {or(odd, and(odd)), []api.Node{bare, bare}},
		{api.Node{Kind: api.QAny, Terms: red.Terms, Kids: []api.Node{red}}, nil}, {api.Node{Kind: 8, Kids: []api.Node{red}}, nil}, {api.Node{Kind: -2, Kids: []api.Node{red}}, nil},
		{api.Node{Kind: api.QAnd, Field: 3, Terms: red.Terms, Kids: []api.Node{red}}, []api.Node{red}},
	} {
		was := told(c.n)
		got := parse.Leaves(c.n)
		if told(and(got...)) != told(and(c.want...)) || told(c.n) != was {
			t.Errorf("%s: %s", was, told(and(got...)))
		}
	}
}

// P22.3: deep ones, and wide ones.
func TestDeep(t *testing.T) {
	deep := func(kind int) api.Node {
		n := word(0, "red")
		for range 1 << 15 {
			n = api.Node{Kind: kind, Kids: []api.Node{n, word(0, "fox")}}
		}
		return n
	}
	if l := parse.Leaves(deep(api.QAnd)); len(l) != 1<<15+1 || l[0].Terms[0].Term != "red" {
		t.Error(len(l))
	}
	if l := parse.Leaves(deep(api.QNot)); len(l) != 0 {
		t.Error(len(l))
	}
	if !parse.Same(deep(api.QOr), deep(api.QOr)) || parse.Same(deep(api.QOr), deep(api.QAnd)) {
		t.Error("deep ones")
	}
	if l := parse.Leaves(or(slices.Repeat([]api.Node{word(0, "red")}, 1<<17)...)); len(l) != 1<<17 {
		t.Error(len(l))
	}
}

// P22.2, P22.3: an answer is new memory.
func TestMemory(t *testing.T) {
	const text = `red (fox | title:"blue run" fo*)`
	want, _ := parse.Parse(text)
	was := told(want)
	for range 2 {
		got, _ := parse.Parse(text)
		leaves := parse.Leaves(want)
		spoil(got)
		for _, l := range leaves[:cap(leaves)] {
			spoil(l)
		}
		if told(want) != was {
			t.Fatal("answers share memory")
		}
	}
	twice := and(want.Kids[0], want.Kids[0])
	leaves := parse.Leaves(twice)
	spoil(leaves[0])
	if told(leaves[1]) != told(word(0, "red")) || told(twice.Kids[0]) != told(word(0, "red")) {
		t.Error("lists of one answer share memory")
	}
}

// spoil turns all that a query's lists have, and the room behind their ends.
func spoil(n api.Node) {
	for i := range n.Terms[:cap(n.Terms)] {
		n.Terms[:cap(n.Terms)][i] = tok("spoilt", 99)
	}
	kids := n.Kids[:cap(n.Kids)]
	for i := range kids {
		spoil(kids[i])
		kids[i] = api.Node{Kind: 99}
	}
}
