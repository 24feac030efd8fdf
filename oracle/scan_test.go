package oracle_test

import (
	"math/rand"
	"slices"
	"strings"
	"testing"

	"scholia/api"
	"scholia/index"
	"scholia/oracle"
	"scholia/parse"
	"scholia/score"
)

// someWords is a text of some words.
func someWords(rnd *rand.Rand, most int) string {
	l := []string{"red", "Red", "fox", "foxes", "foxy", "the", "hen", "hens", "run", "running", "ran", "é", "Éa", "a-b", "\xff", strings.Repeat("x", 21)}
	var s string
	for range rnd.Intn(most + 1) {
		s += l[rnd.Intn(len(l))] + []string{" ", ", ", "  "}[rnd.Intn(3)]
	}
	return s
}

// someQuery is a text that may be a query.
func someQuery(rnd *rand.Rand, deep int) string {
	l := []string{"red", "fox", "foxes", "the", "hen", "f*", "fox*", "e*", "r*", "run*", "é", "É*", "\"red fox\"", "\"fox the hen\"", "\"the\"", "\"red red\"", "\"running hens fox\"", "\"\""}
	if deep == 0 || rnd.Intn(3) == 0 {
		return l[rnd.Intn(len(l))]
	}
	one := func() string { return someQuery(rnd, deep-1) }
	switch rnd.Intn(6) {
	case 0:
		return "-" + one()
	case 1:
		return []string{"title:", "body:", "tag:", "note:"}[rnd.Intn(4)] + one()
	case 2:
		return "(" + one() + " | " + one() + ")"
	case 3:
		return one() + " | " + one()
	}
	return one() + " " + one()
}

// P28.1: a scan answers what an index of the documents answers, in whichever order they are.
func TestScanAsSearch(t *testing.T) {
	rnd := rand.New(rand.NewSource(28))
	found := 0
	for range 1500 {
		x := index.New()
		var l []api.Doc
		for i := range rnd.Intn(9) {
			d := api.Doc{Id: string(rune('a'+rnd.Intn(3))) + string(rune('a'+i))}
			for k := range d.Text {
				d.Text[k] = someWords(rnd, []int{0, 3, 8, 90}[rnd.Intn(4)])
			}
			l = append(l, d)
			if e := x.Put(d); e != api.OK {
				t.Fatal(e)
			}
			if rnd.Intn(4) == 0 {
				x.Flush()
			}
		}
		for range 8 {
			text, k := someQuery(rnd, rnd.Intn(4)), rnd.Intn(24)-2
			got, e := oracle.Scan(l, text, k)
			n, want := parse.Parse(text)
			if e != want {
				t.Fatalf("%s: error %d, not %d", text, e, want)
			}
			if e != api.OK {
				continue
			}
			if hits := score.Search(x.Parts(), n, k); !slices.Equal(got, hits) {
				t.Fatalf("%s of %v: %v, not %v", text, l, got, hits)
			}
			found += len(got)
		}
	}
	if found < 1000 {
		t.Error("too little was found", found)
	}
}

// Whatever is handed in, a scan ends.
func TestScanAny(t *testing.T) {
	rnd := rand.New(rand.NewSource(281))
	for range 3000 {
		b := make([]byte, rnd.Intn(12))
		for i := range b {
			b[i] = "ab\"():-|* \xff"[rnd.Intn(11)]
		}
		l := []api.Doc{{Id: ""}, {Id: strings.Repeat("a", 30), Text: [4]string{"a", "b a", "\xff", string(b)}}, {Id: "a", Text: [4]string{string(b) + "a"}}}
		hits, e := oracle.Scan(l, string(b), 9)
		if _, want := parse.Parse(string(b)); e != want || e != api.OK && hits != nil {
			t.Fatal(string(b), hits, e)
		}
	}
}
