package suggest_test

import (
	"math/rand"
	"slices"
	"strings"
	"testing"
	"unicode/utf8"

	"scholia/api"
	"scholia/dict"
)

// signs is the first 64 signs of a text; a byte that is no sign is below 0, another one another number.
func signs(s string) []rune {
	var l []rune
	for len(s) > 0 && len(l) < 64 {
		r, n := utf8.DecodeRuneInString(s)
		if r == utf8.RuneError && n == 1 {
			r = -1 - rune(s[0])
		}
		l = append(l, r)
		s = s[n:]
	}
	return l
}

// steps is by the words of the chapter the least number of steps from one to the other: whatever may become of the first signs is tried.
func steps(a, b []rune) int {
	known := map[[2]int]int{}
	var least func(i, k int) int
	least = func(i, k int) int {
		if n, ok := known[[2]int{i, k}]; ok {
			return n
		}
		n := len(a) - i + len(b) - k
		if i < len(a) {
			n = min(n, 1+least(i+1, k))
		}
		if k < len(b) {
			n = min(n, 1+least(i, k+1))
		}
		if i < len(a) && k < len(b) {
			n = min(n, 1+least(i+1, k+1))
			if a[i] == b[k] {
				n = min(n, least(i+1, k+1))
			}
		}
		if i+1 < len(a) && k+1 < len(b) && a[i] == b[k+1] && a[i+1] == b[k] {
			n = min(n, 1+least(i+2, k+2))
		}
		known[[2]int{i, k}] = n
		return n
	}
	return least(0, 0)
}

// someText is a text of few signs.
func someText(rnd *rand.Rand, many int) string {
	var b strings.Builder
	for range rnd.Intn(many + 1) {
		b.WriteString([]string{"a", "b", "c", "é", "€", "\U0001F600", "\xff", "\xc3", "\xa0"}[rnd.Intn(9)])
	}
	return b.String()
}

// build is a dictionary of words in any order; those that may not be are left out.
func build(t *testing.T, words []string) *dict.Dict {
	t.Helper()
	l := slices.DeleteFunc(slices.Clone(words), func(w string) bool { return w == "" || len(w) > 64 })
	slices.Sort(l)
	d, e := dict.Build(slices.Compact(l))
	if e != api.OK {
		t.Fatal(words, e)
	}
	return d
}

// near is by the words of the chapter the nearest words of a dictionary.
func near(d *dict.Dict, w string, away, k int) []api.Guess {
	away = min(away, 3)
	var l []api.Guess
	for _, x := range d.Words() {
		more := utf8.RuneCountInString(x) - utf8.RuneCountInString(w)
		if n := steps(signs(x), signs(w)); max(more, -more) <= away && n <= away {
			l = append(l, api.Guess{Word: x, Away: n})
		}
	}
	slices.SortStableFunc(l, func(a, b api.Guess) int { return a.Away - b.Away })
	return l[:max(0, min(k, 20, len(l)))]
}
