package token_test

import (
	"math/rand"
	"slices"
	"strings"
	"testing"
	"unicode/utf8"

	"scholia/api"
	"scholia/fold"
	"scholia/token"
)

// inWord tells by the words of chapter 4 whether a sign may stand in a word.
func inWord(r rune) bool {
	switch {
	case r >= '0' && r <= '9', r >= 'A' && r <= 'Z', r >= 'a' && r <= 'z':
		return true
	case r == 0xD7, r == 0xF7, r == 0x37E, r == 0x387:
		return false
	}
	return r >= 0xC0 && r <= 0x24F || r >= 0x370 && r <= 0x52F
}

// spans is by the words of the chapter where each word stands, byte by byte.
func spans(s string) []api.Span {
	var l []api.Span
	from := -1
	for at := 0; at < len(s); {
		r, n := utf8.DecodeRuneInString(s[at:])
		is := inWord(r) && !(r == utf8.RuneError && n == 1)
		if is && from < 0 {
			from = at
		}
		if !is && from >= 0 {
			l = append(l, api.Span{From: from, To: at})
			from = -1
		}
		at += n
	}
	if from >= 0 {
		l = append(l, api.Span{From: from, To: len(s)})
	}
	return l
}

// someTexts is texts of pieces, at random: words, marks, and what is no sign.
func someTexts(rnd *rand.Rand, count int) []string {
	pieces := []string{"a", "Z", "red", "FOX", "7", "0", "é", "É", "Ж", "ω", "\u024f", "\u0370", "\u052f", " ", " ", ",", "-", "_", "\n", "\x00", "×", "÷", "\u037e", "\u0387", "\u0250", "\u036f", "\u0530", "€", "中", "\U0001f98a", "\xff", "\x80", "\xc3", "\xe2\x82", "\xf0\x9f\x98", "\xed\xa0\x80", "\xc1\x81", strings.Repeat("x", 9)}
	var l []string
	for range count {
		var b strings.Builder
		for range rnd.Intn(40) {
			b.WriteString(pieces[rnd.Intn(len(pieces))])
		}
		l = append(l, b.String())
	}
	return l
}

// P15.1
func TestSpans(t *testing.T) {
	for _, c := range []struct {
		s    string
		want []api.Span
	}{
		{"", nil},
		{" ", nil},
		{" ,.!-_'\"\n\t\x00\x7f", nil},
		{"×÷\u037e\u0387\u0250\u036f\u0530", nil},
		{"€中\U0001f98a", nil},
		{"\xff\x80\xc3", nil},
		{"a", []api.Span{{From: 0, To: 1}}},
		{"red", []api.Span{{From: 0, To: 3}}},
		{"Red, red FOX", []api.Span{{From: 0, To: 3}, {From: 5, To: 8}, {From: 9, To: 12}}},
		{"  red  fox  ", []api.Span{{From: 2, To: 5}, {From: 7, To: 10}}},
		{"r2d2 0 9z", []api.Span{{From: 0, To: 4}, {From: 5, To: 6}, {From: 7, To: 9}}},
		{"@AZ[`az{/09:", []api.Span{{From: 1, To: 3}, {From: 5, To: 7}, {From: 9, To: 11}}},
		{"don't", []api.Span{{From: 0, To: 3}, {From: 4, To: 5}}},
		{"snake_case-word", []api.Span{{From: 0, To: 5}, {From: 6, To: 10}, {From: 11, To: 15}}},
		{"éa é aé", []api.Span{{From: 0, To: 3}, {From: 4, To: 6}, {From: 7, To: 10}}},
		{"¿éß×é", []api.Span{{From: 2, To: 6}, {From: 8, To: 10}}},
		{"\u024f\u0250\u036f\u0370\u052f\u0530", []api.Span{{From: 0, To: 2}, {From: 6, To: 10}}},
		{"€a€", []api.Span{{From: 3, To: 4}}},
		{"\U0001f98aЖ7\U0001f98a", []api.Span{{From: 4, To: 7}}},
		{"a\xffb", []api.Span{{From: 0, To: 1}, {From: 2, To: 3}}},
		{"\x80a\xc3", []api.Span{{From: 1, To: 2}}},
		{"\xe2\x82a\xe2\x82", []api.Span{{From: 2, To: 3}}},
		{"a\xc3\xc3\xa9b\xa9", []api.Span{{From: 0, To: 1}, {From: 2, To: 5}}},
		{"x\xc1\x81y", []api.Span{{From: 0, To: 1}, {From: 3, To: 4}}}, // a longer A is none
		{"x\xed\xa0\x80y", []api.Span{{From: 0, To: 1}, {From: 4, To: 5}}},
		{strings.Repeat("x", 100000), []api.Span{{From: 0, To: 100000}}},
	} {
		if got := token.Spans(c.s); !slices.Equal(got, c.want) {
			t.Errorf("%q: %v, not %v", c.s, got, c.want)
		}
		if got := token.Count(c.s); got != len(c.want) {
			t.Errorf("%q has %d words, not %d", c.s, got, len(c.want))
		}
	}
}

// P15.1: each sign alone, at the beginning, and at the end.
func TestSpansOfSigns(t *testing.T) {
	for r := range rune(0x110000) {
		if r >= 0xD800 && r <= 0xDFFF {
			continue
		}
		sign := string(r)
		for _, s := range []string{sign, sign + "a", "a" + sign, "a" + sign + "a", " " + sign + " "} {
			if got := token.Spans(s); !slices.Equal(got, spans(s)) {
				t.Fatalf("%q: %v, not %v", s, got, spans(s))
			}
		}
		if token.Single(sign) != inWord(r) {
			t.Fatalf("%q is not %v", sign, inWord(r))
		}
	}
}

// P15.1: Spans and Count have no limit.
func TestManySpans(t *testing.T) {
	for _, n := range []int{59, 60, 61, 1000, 100000} {
		s := strings.Repeat("ab ", n)
		l := token.Spans(s)
		if len(l) != n || token.Count(s) != n {
			t.Fatalf("%d and %d words, not %d", len(l), token.Count(s), n)
		}
		for i, span := range l {
			if span != (api.Span{From: 3 * i, To: 3*i + 2}) {
				t.Fatalf("word %d at %v", i, span)
			}
		}
	}
}

// tokens is by the words of the chapter what Words of a text is.
func tokens(s string) []api.Token {
	var l []api.Token
	for i, span := range spans(s) {
		term := fold.Text(s[span.From:span.To])
		if i < 60 && len(term) <= 20 {
			l = append(l, api.Token{Term: term, At: i})
		}
	}
	return l
}

// P15.1
func TestWords(t *testing.T) {
	for _, c := range []struct {
		s    string
		want []api.Token
	}{
		{"", nil},
		{" , ! ", nil},
		{"\xff\xfe", nil},
		{"Red, red FOX", []api.Token{{Term: "red"}, {Term: "red", At: 1}, {Term: "fox", At: 2}}},
		{"the A 7", []api.Token{{Term: "the"}, {Term: "a", At: 1}, {Term: "7", At: 2}}}, // all words: none is left out as not looked for
		{"foxes RUNNING", []api.Token{{Term: "foxes"}, {Term: "running", At: 1}}},
		{"ÉCOLE Жук ΩMEGA Ÿ", []api.Token{{Term: "école"}, {Term: "жук", At: 1}, {Term: "ωmega", At: 2}, {Term: "Ÿ", At: 3}}},
		{"A\xffB\xc3C", []api.Token{{Term: "a"}, {Term: "b", At: 1}, {Term: "c", At: 2}}},
		{strings.Repeat("X", 20), []api.Token{{Term: strings.Repeat("x", 20)}}},
		{strings.Repeat("X", 21), nil},
		{strings.Repeat("É", 10), []api.Token{{Term: strings.Repeat("é", 10)}}},
		{strings.Repeat("É", 10) + "x", nil}, // 21 bytes, but 11 signs
		{strings.Repeat("x", 276), nil},
		// What is too long has its place all the same.
		{"a " + strings.Repeat("b", 21) + " c " + strings.Repeat("d", 5000) + " e", []api.Token{{Term: "a"}, {Term: "c", At: 2}, {Term: "e", At: 4}}},
	} {
		if got := token.Words(c.s); !slices.Equal(got, c.want) {
			t.Errorf("%q: %v, not %v", c.s, got, c.want)
		}
	}
}

// P15.1: the places below 60, and no others.
func TestWordsPlaces(t *testing.T) {
	for _, n := range []int{1, 58, 59, 60, 61, 62, 120, 5000} {
		got := token.Words(strings.Repeat("Fox, ", n))
		if len(got) != min(n, 60) {
			t.Fatalf("of %d: %d", n, len(got))
		}
		for i, x := range got {
			if x != (api.Token{Term: "fox", At: i}) {
				t.Fatalf("%d: %v", i, x)
			}
		}
	}
	// A word that is left out does not let one in that stands too far behind.
	long := strings.Repeat("x", 21)
	s := long + strings.Repeat(" fox", 57) + " hen " + long + " hen red"
	got := token.Words(s)
	if len(got) != 58 || got[0].At != 1 || got[57] != (api.Token{Term: "hen", At: 58}) {
		t.Errorf("%v", got)
	}
}

// P15.1
func TestSingle(t *testing.T) {
	for s, want := range map[string]bool{
		"": false, " ": false, "a": true, "7": true, "fox": true, "FOX7": true, "é": true, "Жук": true,
		" fox": false, "fox ": false, "red fox": false, "fox*": false, "-fox": false, "fox\n": false, "fox\x00": false,
		"fox€": false, "€fox": false, "\U0001f98a": false, "fox\U0001f98a": false, "×": false, "a×b": false,
		"fox\xff": false, "\xfffox": false, "fo\x80x": false, "\xff": false, "\xc3": false, "fox\xc3": false, "\xc1\x81": false,
		strings.Repeat("x", 21): true, strings.Repeat("é", 100000): true, strings.Repeat("x", 100000) + " ": false,
	} {
		if token.Single(s) != want {
			t.Errorf("%q is not %v", s, want)
		}
	}
}

// P15.1
func TestMark(t *testing.T) {
	for _, c := range []struct {
		s              string
		words          []string
		before, behind string
		want           string
	}{
		{"", nil, "[", "]", ""},
		{"", []string{""}, "[", "]", ""},
		{"red fox", nil, "[", "]", "red fox"},
		{"red fox", []string{}, "[", "]", "red fox"},
		{"red fox", []string{""}, "[", "]", "red fox"},
		{"  ,  ", []string{"", " ", ","}, "[", "]", "  ,  "},
		{"red fox", []string{"fox"}, "[", "]", "red [fox]"},
		{"red fox", []string{"red"}, "[", "]", "[red] fox"},
		{"red fox", []string{"fox", "red", "fox"}, "[", "]", "[red] [fox]"},
		{"Red, RED fox, red!", []string{"red"}, "<b>", "</b>", "<b>Red</b>, <b>RED</b> fox, <b>red</b>!"},
		{"Red red", []string{"Red"}, "[", "]", "Red red"}, // its text with small letters is none of these
		{"Red red", []string{"Red", "red"}, "[", "]", "[Red] [red]"},
		{"foxes fox fo", []string{"fox"}, "[", "]", "foxes [fox] fo"}, // a word whole
		{"red fox", []string{"red fox", "red ", " fox", "re", "ed"}, "[", "]", "red fox"},
		{"fox red", []string{"fox"}, "", "", "fox red"},
		{"fox red fox", []string{"fox"}, "", ">", "fox> red fox>"},
		{"fox red fox", []string{"fox"}, "<", "", "<fox red <fox"},
		{"fox fox", []string{"fox"}, "fox", "fox", "foxfoxfox foxfoxfox"}, // marks are no words of it
		{"École, école", []string{"école"}, "(", ")", "(École), (école)"},
		{"Ж\u037eЖ€Ж", []string{"ж"}, "[", "]", "[Ж]\u037e[Ж]€[Ж]"},
		{"\xffFox\xc3fox\x80", []string{"fox"}, "[", "]", "\xff[Fox]\xc3[fox]\x80"},
		{"a\xffb", []string{"a\xffb", "\xff"}, "[", "]", "a\xffb"},
		{"a b", []string{"a"}, "\xff", "\xc3", "\xffa\xc3 b"},
		{"the and", []string{"the"}, "[", "]", "[the] and"},
	} {
		if got := token.Mark(c.s, c.words, c.before, c.behind); got != c.want {
			t.Errorf("%q of %q: %q, not %q", c.words, c.s, got, c.want)
		}
	}
}

// P15.1: words that Words leaves out are marked, too.
func TestMarkAll(t *testing.T) {
	long := strings.Repeat("x", 3000)
	if got := token.Mark("a "+strings.ToUpper(long)+" b", []string{long}, "[", "]"); got != "a ["+strings.ToUpper(long)+"] b" {
		t.Error("a long word is not marked")
	}
	for _, n := range []int{59, 60, 61, 3000} {
		got := token.Mark(strings.Repeat("Fox ", n)+"hen", []string{"fox", "hen"}, "[", "]")
		if want := strings.Repeat("[Fox] ", n) + "[hen]"; got != want {
			t.Errorf("of %d: %q", n, got)
		}
	}
	// Many words, many of which are asked for.
	var words []string
	for i := range 50000 {
		words = append(words, strings.Repeat(string(rune('a'+i%26)), 1+i/26))
	}
	if got := token.Mark(strings.Repeat("a b ", 50000), words, "[", "]"); got != strings.Repeat("[a] [b] ", 50000) {
		t.Error("of many")
	}
}

// P15.1, P15.2: whatever the text.
func TestAnyText(t *testing.T) {
	rnd := rand.New(rand.NewSource(1))
	for _, s := range someTexts(rnd, 20000) {
		want := spans(s)
		if got := token.Spans(s); !slices.Equal(got, want) || token.Count(s) != len(want) {
			t.Fatalf("%q: %v, not %v", s, got, want)
		}
		got := token.Words(s)
		if !slices.Equal(got, tokens(s)) {
			t.Fatalf("%q: %v, not %v", s, got, tokens(s))
		}
		last := -1
		for _, x := range got {
			if !token.Single(x.Term) || fold.Text(x.Term) != x.Term || x.At <= last || len(x.Term) > 20 || x.At >= 60 {
				t.Fatalf("%q: %v behind %d", s, x, last)
			}
			last = x.At
		}
		if single := len(want) == 1 && want[0] == (api.Span{To: len(s)}); token.Single(s) != single {
			t.Fatalf("%q is not %v", s, single)
		}
		var words []string
		marked := ""
		told := 0
		for _, span := range want {
			word := s[span.From:span.To]
			if rnd.Intn(3) == 0 {
				words = append(words, fold.Text(word))
			}
		}
		for _, span := range want {
			if slices.Contains(words, fold.Text(s[span.From:span.To])) {
				marked += s[told:span.From] + "<" + s[span.From:span.To] + ">"
				told = span.To
			}
		}
		marked += s[told:]
		if got := token.Mark(s, words, "<", ">"); got != marked {
			t.Fatalf("%q of %q: %q, not %q", words, s, got, marked)
		}
	}
}

// P15.1: what is handed in stays, and an answer is new memory.
func TestMemory(t *testing.T) {
	const s = "Red, red FOX"
	first, second := token.Words(s), token.Words(s)
	want := slices.Clone(first)
	second = second[:cap(second)]
	for i := range second {
		second[i] = api.Token{Term: "spoilt", At: 99}
	}
	if !slices.Equal(first, want) || !slices.Equal(token.Words(s), want) {
		t.Error("two answers share memory", first)
	}
	l, more := token.Spans(s), token.Spans(s)
	clear(more[:cap(more)])
	if !slices.Equal(l, spans(s)) || !slices.Equal(token.Spans(s), spans(s)) {
		t.Error("two answers share memory", l)
	}
	room := []string{"fox", "red", "hen", "room"}
	was := slices.Clone(room)
	if got := token.Mark(s, room[:1], "[", "]"); got != "Red, red [FOX]" || !slices.Equal(room, was) {
		t.Error(got, room)
	}
}
