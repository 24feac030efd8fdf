package script_test

import (
	"fmt"
	"math/rand"
	"strings"
	"testing"

	"scholia/script"
)

// P29.1: quotes.
func TestQuote(t *testing.T) {
	for _, c := range []struct{ s, want string }{
		{"", "%"}, {"a", "a"}, {"red fox", "red%20fox"}, {"%", "%25"}, {"%%", "%25%25"}, {"%20", "%2520"}, {" ", "%20"},
		{"!~", "!~"}, {"\x00\x1f\x7f\x80\xff", "%00%1f%7f%80%ff"}, {"é", "%c3%a9"}, {"a\nb\r", "a%0ab%0d"}, {`"red" -(a|b*)`, `"red"%20-(a|b*)`},
		{strings.Repeat(" ", 1000), strings.Repeat("%20", 1000)},
	} {
		if got := script.Quote(c.s); got != c.want {
			t.Errorf("%q: %q, not %q", c.s, got, c.want)
		}
		if got, ok := script.Unquote(c.want); got != c.s || !ok {
			t.Errorf("%q: %q, %v, not %q", c.want, got, ok, c.s)
		}
	}
}

// P29.1: each byte, alone and between others.
func TestQuoteBytes(t *testing.T) {
	for c := range 256 {
		want := fmt.Sprintf("%%%02x", c)
		if c > 32 && c < 127 && c != 37 {
			want = string(rune(c))
		}
		s := string([]byte{byte(c)})
		for _, around := range []string{"", "a", "%", " "} {
			q := script.Quote(around + s + around)
			if around != "" {
				want := script.Quote(around) + want + script.Quote(around)
				if q != want {
					t.Errorf("%q: %q, not %q", around+s+around, q, want)
				}
			} else if q != want {
				t.Errorf("%q: %q, not %q", s, q, want)
			}
			if back, ok := script.Unquote(q); !ok || back != around+s+around {
				t.Errorf("%q: %q, %v", q, back, ok)
			}
		}
	}
}

// P29.1: what is the quote of no text.
func TestUnquoteWrong(t *testing.T) {
	for _, q := range []string{
		"", "%%", "%2", "a%", "%a", "%20%", "%2g", "%g2", "%2F", "%C3%A9", "%0A", "%61", "%7e", "%21", "%7E", "% 0", "%2 ", "%-1", "%+1", "%0x",
		" ", "a b", "a ", " a", "\n", "a\n", "\x00", "\x7f", "é", "\xff", "%\x00\x00", "%25%61", "a%20b%", "%%20",
	} {
		if s, ok := script.Unquote(q); ok || s != "" {
			t.Errorf("%q: %q, %v", q, s, ok)
		}
	}
}

// short is all texts of up to so many of some bytes.
func short(most int, bytes string) []string {
	all := []string{""}
	for from := 0; len(all[from]) < most; from++ {
		for i := range len(bytes) {
			all = append(all, all[from]+bytes[i:i+1])
		}
	}
	return all
}

// P29.1: of all texts of up to four of some bytes those that are quotes, and no others, are read.
func TestUnquoteAll(t *testing.T) {
	var every []byte
	for c := range 256 {
		every = append(every, byte(c))
	}
	some := short(4, "%2506aAf \x00~")
	quotes := map[string]string{} // by the quote, the text
	for _, s := range append(short(2, string(every)), some...) {
		quotes[script.Quote(s)] = s
	}
	read := 0
	for _, q := range some {
		s, ok := script.Unquote(q)
		want, is := quotes[q]
		if ok != is || s != want {
			t.Fatalf("%q: %q, %v, not %q, %v", q, s, ok, want, is)
		}
		if ok {
			read++
		}
	}
	if read < 1000 {
		t.Fatal(read)
	}
}

// P29.1: any text comes back, and any two have two quotes.
func TestQuoteBack(t *testing.T) {
	rnd := rand.New(rand.NewSource(29))
	met := map[string]string{}
	for range 20000 {
		b := make([]byte, rnd.Intn(9))
		for i := range b {
			b[i] = byte(rnd.Intn(256))
			if rnd.Intn(2) == 0 {
				b[i] = "% a2!"[rnd.Intn(5)]
			}
		}
		s, q := string(b), script.Quote(string(b))
		if back, ok := script.Unquote(q); !ok || back != s {
			t.Fatalf("%q: %q: %q, %v", s, q, back, ok)
		}
		if other, is := met[q]; is && other != s {
			t.Fatalf("%q and %q: %q", s, other, q)
		}
		met[q] = s
		if strings.ContainsAny(q, " \n") || q == "" {
			t.Fatalf("%q", q)
		}
	}
}
