package suggest_test

import (
	"math"
	"math/rand"
	"slices"
	"strconv"
	"strings"
	"testing"

	"scholia/api"
	"scholia/dict"
	"scholia/suggest"
)

// P32.1
func TestDistance(t *testing.T) {
	x := strings.Repeat("x", 64)
	for _, c := range []struct {
		s, t string
		want int
	}{
		{"", "", 0}, {"", "a", 1}, {"", "abc", 3}, {"fox", "fox", 0},
		{"fox", "fxo", 1}, {"red", "bred", 1}, {"fox", "ox", 1}, {"fox", "fix", 1}, {"fox", "foxes", 2}, {"fox", "hen", 3},
		{"ab", "ba", 1}, {"abcd", "badc", 2}, {"ca", "abc", 3}, {"abc", "ca", 3}, {"abc", "cba", 2}, {"abc", "bca", 2}, {"ab", "bca", 3}, {"aab", "aba", 1},
		{"kitten", "sitting", 3}, {"a cat", "an abct", 4},
		{"é", "e", 1}, {"é", "ê", 1}, {"é", "", 1}, {"école", "ecole", 1}, {"é€", "€é", 1}, {"\U0001F600", "€", 1}, {"éa", "aé", 1},
		{"Fox", "fox", 1},
		{"\xff", "", 1}, {"\xff", "a", 1}, {"\xff", "\ufffd", 1}, {"\xff", "\xff", 0}, {"\xff", "ÿ", 1}, {"\xffa", "a\xff", 1}, {"\xc3", "é", 1}, {"\xe2\x82", "€", 2}, {"a\xffb", "ab", 1},
		{"\xed", "\xa0", 1}, {"\xff", "\x80", 1}, {"\xff", "\xfe", 1}, {"\xed\xa0", "\xa0\xed", 1}, {"Z\xe0\x80\x80", "Z\x80\xe0\x80", 1}, {"\xed\xa0\x80", "\xed\xa0\x80", 0}, {"\xed\xa0\x80", "\xa0\x80", 1}, {"\xc3\xc3", "\xc3", 1}, {"\x80\x81\x82", "\x83\x84\x85", 3},
		{x, x + "y", 0}, {x + "abc", x + "z", 0}, {x[:63], x, 1}, {x[:63] + "y", x, 1}, {x[:62] + "ab", x[:62] + "ba", 1}, {x[:63] + "ab", x[:63] + "ba", 1}, {"", x + x, 64}, {"y" + x, x, 1}, {"y" + x, x + "z", 1}, {"", strings.Repeat("€", 100), 64},
	} {
		if got := suggest.Distance(c.s, c.t); got != c.want {
			t.Errorf("%q and %q: %d, not %d", c.s, c.t, got, c.want)
		}
	}
	if got := suggest.Distance(strings.Repeat("a", 1<<20), strings.Repeat("b", 1<<20)); got != 64 {
		t.Error(got)
	}
}

// P32.1, P32.3
func TestSomeDistances(t *testing.T) {
	rnd := rand.New(rand.NewSource(321))
	for round := range 20000 {
		many := 8
		if round%50 == 0 {
			many = 90
		}
		s, u := someText(rnd, many), someText(rnd, many)
		if rnd.Intn(3) == 0 {
			u = s + someText(rnd, 2)
		}
		a, b := signs(s), signs(u)
		n := suggest.Distance(s, u)
		if n != steps(a, b) {
			t.Fatalf("%q and %q: %d, not %d", s, u, n, steps(a, b))
		}
		if n != suggest.Distance(u, s) || (n == 0) != slices.Equal(a, b) || len(a) < 64 && len(b) < 64 && (n == 0) != (s == u) || n < max(len(a)-len(b), len(b)-len(a)) || n > max(len(a), len(b)) {
			t.Fatalf("%q and %q: %d", s, u, n)
		}
	}
}

// P32.2
func TestNear(t *testing.T) {
	d := build(t, []string{"bred", "fed", "fox", "foxes", "fxo", "ox", "rd", "red", "reed", "reeds", "rred", "é", "édr"})
	guess := func(away int, words ...string) []api.Guess {
		var l []api.Guess
		for _, w := range words {
			l = append(l, api.Guess{Word: w, Away: away})
		}
		return l
	}
	one := guess(1, "bred", "fed", "rd", "reed", "rred")
	for _, c := range []struct {
		w       string
		away, k int
		want    []api.Guess
	}{
		{"red", 0, 9, guess(0, "red")},
		{"red", 1, 9, slices.Concat(guess(0, "red"), one)},
		{"red", 1, 3, slices.Concat(guess(0, "red"), one[:2])},
		{"red", 1, 1, guess(0, "red")},
		{"red", 1, 0, nil},
		{"red", 1, -1, nil},
		{"red", 1, math.MinInt, nil},
		{"red", -1, 9, nil},
		{"red", math.MinInt, 9, nil},
		{"red", 2, 20, slices.Concat(guess(0, "red"), one, guess(2, "reeds"))},
		{"red", 3, 20, slices.Concat(guess(0, "red"), one, guess(2, "reeds"), guess(3, "fox", "fxo", "ox", "é", "édr"))},
		{"red", 4, 20, slices.Concat(guess(0, "red"), one, guess(2, "reeds"), guess(3, "fox", "fxo", "ox", "é", "édr"))},
		{"red", math.MaxInt, math.MaxInt, slices.Concat(guess(0, "red"), one, guess(2, "reeds"), guess(3, "fox", "fxo", "ox", "é", "édr"))},
		{"", 1, 9, guess(1, "é")},
		{"", 0, 9, nil},
		{"hens", 1, 9, nil},
		{"f\xffx", 1, 9, guess(1, "fox")},
		{"f\xffx", 0, 9, nil},
	} {
		if got := suggest.Near(d, c.w, c.away, c.k); !slices.Equal(got, c.want) {
			t.Errorf("%q, %d away, %d: %v", c.w, c.away, c.k, got)
		}
	}
}

// P32.2: words of bytes that are no signs.
func TestNearNoSigns(t *testing.T) {
	d := build(t, []string{"\xa0", "\xed", "\xed\xa0", "a\xff"})
	for _, c := range []struct {
		w    string
		away int
		want []api.Guess
	}{
		{"\xed", 0, []api.Guess{{Word: "\xed"}}},
		{"\xed", 1, []api.Guess{{Word: "\xed"}, {Word: "\xa0", Away: 1}, {Word: "\xed\xa0", Away: 1}}},
		{"\xa0\xed", 1, []api.Guess{{Word: "\xa0", Away: 1}, {Word: "\xed", Away: 1}, {Word: "\xed\xa0", Away: 1}}},
		{"a\xfe", 0, nil},
		{"a\xfe", 1, []api.Guess{{Word: "a\xff", Away: 1}}},
	} {
		if got := suggest.Near(d, c.w, c.away, 9); !slices.Equal(got, c.want) {
			t.Errorf("%q, %d away: %v", c.w, c.away, got)
		}
	}
}

// P32.2: at most 20, and texts of more than 64 signs.
func TestNearMany(t *testing.T) {
	var words []string
	for i := range 40 {
		words = append(words, "w"+strconv.Itoa(10+i))
	}
	long := strings.Repeat("x", 64)
	d := build(t, append(words, long, long[:63], long[:61], long[:60]))
	for _, k := range []int{19, 20, 21, 1 << 20, math.MaxInt} {
		if got := suggest.Near(d, "w55", 2, k); !slices.Equal(got, near(d, "w55", 2, 20)[:min(k, 20)]) {
			t.Errorf("%d: %v", k, got)
		}
		if got := suggest.Complete(d, "w", k); !slices.Equal(got, words[:min(k, 20)]) {
			t.Errorf("%d: %v", k, got)
		}
	}
	for _, c := range []struct {
		w    string
		away int
		want []api.Guess
	}{
		{long, 3, []api.Guess{{Word: long}, {Word: long[:63], Away: 1}, {Word: long[:61], Away: 3}}},
		{long + "y", 0, nil}, // its first 64 signs are as near as can be, but it is longer
		{long + "y", 1, []api.Guess{{Word: long}}},
		{long + "yyy", 3, []api.Guess{{Word: long}}},
		{long + "yy", 3, []api.Guess{{Word: long}, {Word: long[:63], Away: 1}}},
		{long + "yyyy", 3, nil},
		{strings.Repeat("x", 1<<20), 3, nil},
	} {
		if got := suggest.Near(d, c.w, c.away, 20); !slices.Equal(got, c.want) {
			t.Errorf("%d bytes, %d away: %v", len(c.w), c.away, got)
		}
	}
}

// P32.2: by a scan of the words.
func TestSomeNear(t *testing.T) {
	rnd := rand.New(rand.NewSource(322))
	for range 600 {
		var words []string
		for range rnd.Intn(40) {
			words = append(words, someText(rnd, 5))
		}
		d := build(t, words)
		was := d.Words()
		for range 5 {
			w, away, k := someText(rnd, 6), rnd.Intn(6)-1, rnd.Intn(25)-2
			if got, want := suggest.Near(d, w, away, k), near(d, w, away, k); !slices.Equal(got, want) {
				t.Fatalf("%q in %q, %d away, %d: %v, not %v", w, was, away, k, got, want)
			}
			begin := slices.DeleteFunc(d.Words(), func(x string) bool { return !strings.HasPrefix(x, w) })
			if got := suggest.Complete(d, w, k); !slices.Equal(got, begin[:max(0, min(k, 20, len(begin)))]) {
				t.Fatalf("%q in %q, %d: %q", w, was, k, got)
			}
		}
		if !slices.Equal(d.Words(), was) {
			t.Fatal(d.Words())
		}
	}
}

// P32.2
func TestComplete(t *testing.T) {
	d := build(t, []string{"fo", "fox", "foxes", "foy", "run"})
	for _, c := range []struct {
		prefix string
		k      int
		want   []string
	}{
		{"", 9, []string{"fo", "fox", "foxes", "foy", "run"}},
		{"", 2, []string{"fo", "fox"}},
		{"fox", 9, []string{"fox", "foxes"}},
		{"fox", 1, []string{"fox"}},
		{"fox", 0, nil},
		{"fox", -1, nil},
		{"fox", math.MinInt, nil},
		{"fox", math.MaxInt, []string{"fox", "foxes"}},
		{"foxt", 9, nil},
		{"z", 9, nil},
		{"run", 9, []string{"run"}},
	} {
		if got := suggest.Complete(d, c.prefix, c.k); !slices.Equal(got, c.want) {
			t.Errorf("%q, %d: %q", c.prefix, c.k, got)
		}
	}
}

// P32.2: dictionaries that no call made.
func TestNoDict(t *testing.T) {
	for _, d := range []*dict.Dict{nil, new(dict.Dict), build(t, nil)} {
		if l := suggest.Near(d, "", 3, 9); len(l) != 0 {
			t.Error(l)
		}
		if l := suggest.Complete(d, "", 9); len(l) != 0 {
			t.Error(l)
		}
	}
}

// P32.2
func TestAll(t *testing.T) {
	long := strings.Repeat("x", 64)
	for _, c := range []struct{ texts, want []string }{
		{nil, nil},
		{[]string{"fox"}, []string{"fox"}},
		{[]string{"fox", "foxes", "run"}, []string{"fox", "foxes", "run"}},
		{[]string{"fox", "fox", "run", "run", "run"}, []string{"fox", "run"}},
		{[]string{"run", "fox", "run", "fox"}, []string{"fox", "run"}},
		{[]string{"\xff", long}, []string{long, "\xff"}},
		{[]string{""}, nil},
		{[]string{"fox", ""}, nil},
		{[]string{"fox", long + "x"}, nil},
	} {
		var l []api.Term
		for _, s := range c.texts {
			l = append(l, api.Term{Text: s})
		}
		was := slices.Clone(c.texts)
		d := suggest.All(l)
		if d == nil || !slices.Equal(d.Words(), c.want) || len(d.Bytes()) == 0 {
			t.Fatalf("%q: %q", c.texts, d.Words())
		}
		for i := range l {
			if l[i].Text != was[i] {
				t.Errorf("%q: changed to %v", was, l)
			}
		}
	}
}

// P32.2: as many words as a dictionary may have, and one more.
func TestAllMany(t *testing.T) {
	var l []api.Term
	for i := range 16384 {
		l = append(l, api.Term{Text: strconv.Itoa(100000 + i)}, api.Term{Text: strconv.Itoa(100000 + i)})
	}
	if d := suggest.All(l); d.Len() != 16384 {
		t.Error(d.Len())
	}
	if d := suggest.All(append(l, api.Term{Text: "one too many"})); d == nil || d.Len() != 0 || len(d.Bytes()) == 0 {
		t.Error(d.Len())
	}
}

// P32.2: answers are in memory of their own.
func TestMemory(t *testing.T) {
	d := build(t, []string{"fox", "foxes"})
	first := suggest.Complete(d, "", 9)
	for i := range first[:cap(first)] {
		first[:cap(first)][i] = "spoilt"
	}
	guesses := suggest.Near(d, "fox", 2, 9)
	for i := range guesses[:cap(guesses)] {
		guesses[:cap(guesses)][i] = api.Guess{Word: "spoilt"}
	}
	if l := suggest.Complete(d, "", 9); !slices.Equal(l, []string{"fox", "foxes"}) {
		t.Error(l)
	}
	if l := suggest.Near(d, "fox", 2, 9); !slices.Equal(l, []api.Guess{{Word: "fox"}, {Word: "foxes", Away: 2}}) {
		t.Error(l)
	}
}
