package dict_test

import (
	"encoding/hex"
	"math/rand"
	"slices"
	"strings"
	"testing"

	"scholia/api"
	"scholia/coder"
	"scholia/dict"
)

func unhex(s string) []byte {
	b, err := hex.DecodeString(s)
	if err != nil {
		panic(err)
	}
	return b
}

// build is a dictionary of words that may be.
func build(t *testing.T, words []string) *dict.Dict {
	t.Helper()
	d, e := dict.Build(words)
	if e != api.OK || d == nil {
		t.Fatalf("%q: error %d", words, e)
	}
	return d
}

// someWords is words in order, each once, of few letters, so that many begin alike.
func someWords(rnd *rand.Rand, many int) []string {
	var l []string
	for range rnd.Intn(many + 1) {
		var b strings.Builder
		for range 1 + rnd.Intn(6) {
			b.WriteByte("ab\x00\xff"[rnd.Intn(4)])
		}
		if rnd.Intn(9) == 0 {
			b.WriteString(strings.Repeat("a", 58))
		}
		l = append(l, b.String())
	}
	slices.Sort(l)
	return slices.Compact(l)
}

// numbered is so many words that rise.
func numbered(many int) []string {
	l := make([]string, many)
	for i := range l {
		l[i] = string([]byte{byte('a' + i/4096), byte('a' + i/256%16), byte('a' + i/16%16), byte('a' + i%16)})
	}
	return l
}

// written is by the words of the chapter the bytes of words.
func written(words []string) []byte {
	b := coder.Num(nil, len(words))
	for i, w := range words {
		like := 0
		if i > 0 {
			for like < len(w) && strings.HasPrefix(words[i-1], w[:like+1]) {
				like++
			}
		}
		b = coder.Text(coder.Num(b, like), w[like:])
	}
	return b
}

// empty tells whether a dictionary is there, and has no words.
func empty(d *dict.Dict) bool {
	return d != nil && d.Len() == 0 && len(d.Words()) == 0 && string(d.Bytes()) == "\x00"
}
