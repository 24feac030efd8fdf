package stem_test

import (
	"math/rand"
	"slices"
	"strings"
	"testing"

	"scholia/stem"
)

// P16.1
func TestStop(t *testing.T) {
	stops := strings.Fields("a an and as at be by for in is it of on or the to")
	if len(stops) != 16 {
		t.Fatal(len(stops))
	}
	for _, w := range stops {
		if !stem.Stop(w) {
			t.Errorf("%q is looked for", w)
		}
		for _, x := range []string{strings.ToUpper(w), strings.ToUpper(w[:1]) + w[1:] + "x", w + " ", " " + w, w + "\x00", w + w, w + "é", "\xff" + w} {
			if stem.Stop(x) != slices.Contains(stops, x) {
				t.Errorf("%q is not looked for", x)
			}
		}
	}
	for _, w := range []string{"", "b", "i", "s", "not", "no", "are", "was", "this", "that", "with", "from", "but", "he", "we", "if", "so", "fo", "th", "THE", "The", "thé", "а", "and or", "\xff", strings.Repeat("a", 1000)} {
		if stem.Stop(w) {
			t.Errorf("%q is not looked for", w)
		}
	}
	// All words of at most three letters.
	const letters = "abcdefghijklmnopqrstuvwxyz"
	count := 0
	for _, a := range letters {
		for _, b := range letters {
			for _, c := range letters {
				if stem.Stop(string([]rune{a, b, c})) {
					count++
				}
			}
			if stem.Stop(string([]rune{a, b})) {
				count++
			}
		}
		if stem.Stop(string(a)) {
			count++
		}
	}
	if count != len(stops) {
		t.Errorf("%d are not looked for", count)
	}
}

// P16.2: step by step, and what the steps leave as it is.
func TestStem(t *testing.T) {
	for _, c := range []struct{ of, want string }{
		{"running", "run"}, {"foxes", "foxe"}, {"ponies", "pony"}, {"kindness", "kind"},

		// Too short, or of other signs.
		{"", ""}, {"a", "a"}, {"s", "s"}, {"bus", "bus"}, {"its", "its"}, {"ing", "ing"}, {"ies", "ies"}, {"red", "red"}, {"ly", "ly"},
		{"foxes7", "foxes7"}, {"7foxes", "7foxes"}, {"fo7es", "fo7es"}, {"Foxes", "Foxes"}, {"foxeS", "foxeS"}, {"FOXES", "FOXES"},
		{"caféés", "caféés"}, {"éclairs", "éclairs"}, {"жуки", "жуки"}, {"fox-es", "fox-es"}, {"red foxes", "red foxes"}, {"foxes ", "foxes "},
		{"foxes\xff", "foxes\xff"}, {"\xffoxes", "\xffoxes"}, {"fo\x00es", "fo\x00es"}, {"f`xes", "f`xes"}, {"f{xes", "f{xes"}, {"runnıng", "runnıng"},
		{"2026s", "2026s"}, {"éés", "éés"}, // of four bytes and more, but three signs

		// The first step.
		{"foxs", "fox"}, {"hens", "hen"}, {"classes", "class"}, {"sses", "ss"}, {"asses", "ass"}, {"dies", "die"}, {"ties", "tie"}, {"flies", "fly"}, {"cities", "city"},
		{"glass", "glass"}, {"less", "less"}, {"ssss", "ssss"}, {"virus", "virus"}, {"thus", "thus"}, {"basis", "basis"}, {"this", "this"}, {"ours", "our"}, {"yes", "yes"}, {"does", "doe"}, {"boys", "boy"}, {"xxxs", "xxx"},
		{"bookss", "bookss"}, {"bosses", "boss"}, {"oies", "oie"}, {"aoies", "aoy"}, {"seriess", "seriess"},

		// The second step.
		{"looking", "look"}, {"looked", "look"}, {"sing", "sing"}, {"bring", "bring"}, {"string", "string"}, {"trying", "try"}, {"being", "being"}, {"doing", "doing"}, {"eating", "eat"},
		{"seed", "seed"}, {"need", "need"}, {"freed", "fre"}, {"agreed", "agre"}, {"used", "used"}, {"asked", "ask"}, {"bleed", "ble"}, {"shred", "shred"}, {"xyzed", "xyz"}, {"xyzing", "xyz"}, {"brted", "brted"}, {"rhythming", "rhythm"},
		{"hopping", "hop"}, {"hopped", "hop"}, {"planned", "plan"}, {"adding", "ad"}, {"added", "ad"}, {"putting", "put"}, {"egged", "eg"},
		{"falling", "fall"}, {"missing", "miss"}, {"buzzing", "buzz"}, {"called", "call"}, {"passed", "pass"}, {"seeing", "see"}, {"wooed", "woo"}, {"skiing", "ski"}, {"baaing", "baa"}, {"vacuuing", "vacuu"}, {"xayying", "xayy"},
		{"bedding", "bed"}, {"needing", "need"}, {"redding", "red"}, {"seededing", "seeded"}, {"ringinged", "ringing"}, // one end alone
		{"watt", "watt"}, {"staff", "staff"}, {"inning", "in"}, // doubled, but nothing goes behind it
		{"bcdfing", "bcdfing"}, {"bcdding", "bcdding"}, {"ading", "ading"}, {"aeing", "aeing"}, {"aeiing", "aei"},
		{"abbbed", "abb"}, {"ingeding", "inged"},

		// The third step.
		{"realization", "realize"}, {"relation", "relate"}, {"station", "station"}, {"ration", "ration"}, {"creation", "create"}, {"oxation", "oxation"},
		{"joyfully", "joyful"}, {"awfully", "awful"}, {"fully", "ful"}, {"happiness", "happi"}, {"illness", "ill"}, {"oxness", "oxness"}, {"payment", "pay"}, {"moment", "moment"}, {"cement", "cement"}, {"document", "docu"},
		{"finally", "final"}, {"really", "real"}, {"rally", "ral"}, {"orally", "oral"}, {"ally", "ally"}, {"quickly", "quick"}, {"only", "only"}, {"early", "ear"}, {"lily", "lily"}, {"boldly", "bold"},
		{"oxization", "oxizate"}, {"abcization", "abcize"}, {"abization", "abizate"}, {"ization", "ization"}, {"xization", "xizate"}, {"bcdfully", "bcdful"}, {"bcfully", "bcful"}, {"bcdally", "bcdal"}, {"bcally", "bcal"},
		{"abcness", "abc"}, {"abness", "abness"}, {"abcment", "abc"}, {"abment", "abment"}, {"abcly", "abc"}, {"ably", "ably"}, {"abcation", "abcate"}, {"abation", "abation"},

		// Several, one behind the other; a third step alone takes one end.
		{"buildings", "build"}, {"runnings", "run"}, {"kindnesses", "kind"}, {"relations", "relate"}, {"realizations", "realize"}, {"payments", "pay"}, {"cementing", "cement"}, {"commented", "com"}, {"cleanlinesses", "cleanli"}, {"movementing", "move"},
		{"happinessly", "happiness"}, {"carefullyness", "carefully"}, {"foxesing", "foxes"}, {"wedding", "wed"}, {"weddings", "wed"}, {"families", "fami"}, {"supplies", "supp"}, {"supplied", "suppli"}, {"singers", "singer"},
		// What a step leaves of less than four letters ends it.
		{"axes", "axe"}, {"xlys", "xly"}, {"ings", "ing"}, {"eds", "eds"}, {"ieds", "ied"}, {"alying", "aly"},
	} {
		if got := stem.Stem(c.of); got != c.want {
			t.Errorf("%q: %q, not %q", c.of, got, c.want)
		}
	}
}

// plain tells whether a word is of at least four letters a to z alone.
func plain(w string) bool {
	return len(w) >= 4 && strings.Trim(w, "abcdefghijklmnopqrstuvwxyz") == ""
}

// one, two and three are the steps by the words of the chapter.
func one(w string) string {
	has := func(end string) bool { return strings.HasSuffix(w, end) }
	if has("sses") {
		return w[:len(w)-2]
	}
	if has("ies") && len(w) > 4 {
		return w[:len(w)-3] + "y"
	}
	if has("ss") || has("us") || has("is") || !has("s") {
		return w
	}
	return w[:len(w)-1]
}

func two(w string) string {
	left := w
	if strings.HasSuffix(w, "ing") {
		left = w[:len(w)-3]
	} else if strings.HasSuffix(w, "ed") {
		left = w[:len(w)-2]
	}
	if left == w || len(left) < 3 || !strings.ContainsAny(left, "aeiouy") {
		return w
	}
	k := len(left)
	if left[k-1] == left[k-2] && !strings.ContainsRune("aeiouylsz", rune(left[k-1])) {
		return left[:k-1]
	}
	return left
}

func three(w string) string {
	ends := strings.Fields("ization ation fully ness ment ally ly")
	for i, to := range []string{"ize", "ate", "ful", "", "", "al", ""} {
		if k := len(w) - len(ends[i]); k >= 3 && w[k:] == ends[i] {
			return w[:k] + to
		}
	}
	return w
}

// steps is what the three make of a word.
func steps(w string) string {
	for _, step := range []func(w string) string{one, two, three} {
		if !plain(w) {
			return w
		}
		w = step(w)
	}
	return w
}

// P16.3
func checkShort(t *testing.T, w string) {
	t.Helper()
	got := stem.Stem(w)
	if len(got) > len(w) || got == "" && w != "" || w != "" && got[0] != w[0] {
		t.Fatalf("%q: %q", w, got)
	}
}

// P16.2, P16.3: words of ends, one behind the other.
func TestEnds(t *testing.T) {
	parts := strings.Fields("s es ss sses ies us is ing ed ization ation fully ful ness ment ally ly al l a e y b bb dd zz run fox tt 7 é \xff S")
	rnd := rand.New(rand.NewSource(3))
	changed := 0
	for range 300000 {
		w := ""
		for range rnd.Intn(6) {
			w += parts[rnd.Intn(len(parts))]
		}
		want := steps(w)
		if got := stem.Stem(w); got != want {
			t.Fatalf("%q: %q, not %q", w, got, want)
		}
		if want != w {
			changed++
		}
		checkShort(t, w)
	}
	if changed < 40000 {
		t.Error("too few are changed", changed)
	}
}

// P16.2, P16.3: all words of at most four letters, and of six of some.
func TestShort(t *testing.T) {
	var grow func(w, letters string, most int)
	grow = func(w, letters string, most int) {
		if got, want := stem.Stem(w), steps(w); got != want {
			t.Fatalf("%q: %q, not %q", w, got, want)
		}
		checkShort(t, w)
		for i := 0; i < len(letters) && len(w) < most; i++ {
			grow(w+letters[i:i+1], letters, most)
		}
	}
	grow("", "abcdefghijklmnopqrstuvwxyz", 4)
	grow("", "seidngly", 6)
}

// P16.3: of any bytes.
func TestAnyBytes(t *testing.T) {
	rnd := rand.New(rand.NewSource(4))
	ends := []string{"", "s", "ies", "sses", "ing", "ed", "ization", "ness", "ly"}
	for range 50000 {
		b := make([]byte, rnd.Intn(9))
		for i := range b {
			b[i] = byte(rnd.Intn(256))
			if rnd.Intn(4) > 0 {
				b[i] = 'a' + b[i]%26
			}
		}
		w := string(b) + ends[rnd.Intn(len(ends))]
		if got, want := stem.Stem(w), steps(w); got != want {
			t.Fatalf("%q: %q, not %q", w, got, want)
		}
		checkShort(t, w)
	}
	long := strings.Repeat("ab", 500000)
	for of, want := range map[string]string{long + "nesses": long, long + "bbing": long + "b", long + "S": long + "S"} {
		if stem.Stem(of) != want {
			t.Errorf("of %d bytes", len(of))
		}
	}
}
