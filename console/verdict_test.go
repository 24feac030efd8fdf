package console

import (
	"slices"
	"testing"
)

// P30.1: what check tells. A cluster has no replica that is wrong, so it is asked of some made by hand.
func TestVerdict(t *testing.T) {
	for _, c := range []struct {
		right []bool
		equal bool
		want  string
	}{
		{[]bool{true, true}, true, "right equal"}, {[]bool{true, true}, false, "right"}, {[]bool{true, true, true, true, true}, true, "right equal"},
		{[]bool{false, true}, true, "wrong"}, {[]bool{true, false}, true, "wrong"}, {[]bool{true, false, true}, false, "wrong"}, {[]bool{false, false}, false, "wrong"},
	} {
		var asked []int
		right := func(i int) bool {
			asked = append(asked, i)
			return c.right[i]
		}
		if got := verdict(len(c.right), right, func() bool { return c.equal }); got != c.want {
			t.Errorf("%v: %q, not %q", c, got, c.want)
		}
		if c.want != "wrong" && !slices.Equal(asked, []int{0, 1, 2, 3, 4}[:len(c.right)]) {
			t.Errorf("%v: %v were asked", c, asked)
		}
	}
}
