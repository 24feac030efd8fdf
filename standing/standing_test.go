package standing_test

import (
	"math"
	"math/rand"
	"slices"
	"sort"
	"strconv"
	"testing"

	"scholia/api"
	"scholia/standing"
)

// hits is hits of names and scores by turns; change and its three kinds are short ways to write changes.
func hits(l ...any) []api.Hit {
	var out []api.Hit
	for i := 0; i < len(l); i += 2 {
		out = append(out, api.Hit{Id: l[i].(string), Score: l[i+1].(int)})
	}
	return out
}

func change(kind int, id string, score int) api.Change {
	return api.Change{Kind: kind, Hit: api.Hit{Id: id, Score: score}}
}

func came(id string, score int) api.Change { return change(api.Came, id, score) }

func went(id string, score int) api.Change { return change(api.Went, id, score) }

func moved(id string, score int) api.Change { return change(api.Moved, id, score) }

// P34.1
func TestGood(t *testing.T) {
	for _, c := range []struct {
		l    []api.Hit
		want bool
	}{
		{nil, true}, {[]api.Hit{}, true}, {hits("a", 3), true}, {hits("", -5), true}, {hits("a", 3, "b", 2), true}, {hits("b", 3, "a", 2), true}, {hits("a", 3, "b", 3), true}, {hits("A", 3, "a", 3, "aa", 3, "\xff", 3, "0", 0, "1", -1), true}, {hits("a", math.MaxInt, "b", math.MinInt), true},
		{hits("a", 2, "b", 3), false}, {hits("b", 3, "a", 3), false}, {hits("a", 3, "a", 3), false}, {hits("a", 3, "a", 2), false}, {hits("a", 3, "b", 2, "a", 1), false}, {hits("a", 3, "b", 2, "c", 2, "b", 1), false}, {hits("a", 3, "b", 1, "c", 2), false}, {hits("c", 3, "b", 2, "a", 2), false}, {hits("a", math.MinInt, "b", math.MaxInt), false}, {hits("", 1, "", 0), false},
	} {
		if got := standing.Good(c.l); got != c.want {
			t.Errorf("%v: %v", c.l, got)
		}
	}
}

// P34.1
func TestDiff(t *testing.T) {
	for _, c := range []struct {
		old, now []api.Hit
		want     []api.Change
	}{
		{hits("a", 3, "b", 2), hits("b", 4), []api.Change{went("a", 3), moved("b", 4)}},
		{nil, nil, nil}, {hits("a", 3), hits("a", 3), nil}, {hits("a", 3, "b", 3), hits("b", 3, "a", 3), nil},
		{nil, hits("b", 3, "a", 2), []api.Change{came("a", 2), came("b", 3)}}, {hits("b", 3, "a", 2), nil, []api.Change{went("a", 2), went("b", 3)}},
		{hits("c", 9, "a", 5, "e", 1), hits("d", 9, "e", 2, "b", 1), []api.Change{went("a", 5), came("b", 1), went("c", 9), came("d", 9), moved("e", 2)}},
		{hits("a", 0), hits("a", -1), []api.Change{moved("a", -1)}}, {hits("a", 3), hits("A", 3), []api.Change{came("A", 3), went("a", 3)}}, {hits("", 3), hits("\xff", 3), []api.Change{went("", 3), came("\xff", 3)}}, {hits("a", 0), hits("b", 0), []api.Change{went("a", 0), came("b", 0)}}, {hits("a", 0), nil, []api.Change{went("a", 0)}},
		// By hand: one name several times.
		{hits("a", 3, "a", 2), nil, []api.Change{went("a", 3), went("a", 2)}}, {hits("a", 2, "b", 1, "a", 3), hits("b", 1), []api.Change{went("a", 2), went("a", 3)}}, {nil, hits("a", 2, "b", 1, "a", 3), []api.Change{came("a", 2), came("a", 3), came("b", 1)}},
		{hits("a", 3, "a", 2), hits("a", 3), nil}, {hits("a", 3, "a", 2), hits("a", 2), []api.Change{moved("a", 2)}}, {hits("a", 3), hits("a", 3, "a", 4, "a", 3, "a", 1), []api.Change{moved("a", 4), moved("a", 1)}}, {hits("a", 3), hits("a", 2, "a", 2), []api.Change{moved("a", 2), moved("a", 2)}}, {hits("a", 3, "a", 3), nil, []api.Change{went("a", 3), went("a", 3)}},
	} {
		if got := standing.Diff(c.old, c.now); !slices.Equal(got, c.want) {
			t.Errorf("%v to %v: %v, not %v", c.old, c.now, got, c.want)
		}
	}
}

// P34.1
func TestPatch(t *testing.T) {
	two := hits("a", 3, "b", 2)
	for _, c := range []struct {
		old  []api.Hit
		l    []api.Change
		want []api.Hit
		e    api.Errno
	}{
		{two, []api.Change{went("a", 3), moved("b", 4)}, hits("b", 4), api.OK},
		{nil, nil, nil, api.OK}, {two, nil, two, api.OK}, {two, []api.Change{}, two, api.OK}, {hits("b", 2, "a", 3), nil, two, api.OK}, {hits("b", 3, "a", 3), nil, hits("a", 3, "b", 3), api.OK},
		{nil, []api.Change{came("a", 3)}, hits("a", 3), api.OK}, {two, []api.Change{came("c", 5)}, hits("c", 5, "a", 3, "b", 2), api.OK}, {two, []api.Change{came("A", 3)}, hits("A", 3, "a", 3, "b", 2), api.OK}, {two, []api.Change{came("c", -1), came("", 9)}, hits("", 9, "a", 3, "b", 2, "c", -1), api.OK},
		{two, []api.Change{went("a", 99)}, hits("b", 2), api.OK}, {two, []api.Change{went("a", 3), went("b", 2)}, nil, api.OK}, {two, []api.Change{moved("b", 3)}, hits("a", 3, "b", 3), api.OK}, {two, []api.Change{moved("a", 3)}, two, api.OK},
		// One behind the other.
		{two, []api.Change{went("a", 3), came("a", 1)}, hits("b", 2, "a", 1), api.OK}, {two, []api.Change{came("c", 1), moved("c", 7), moved("c", 6)}, hits("c", 6, "a", 3, "b", 2), api.OK}, {two, []api.Change{came("c", 1), went("c", 1)}, two, api.OK}, {two, []api.Change{came("c", 1), went("c", 1), came("c", 0)}, hits("a", 3, "b", 2, "c", 0), api.OK},
		// By hand: one name several times.
		{hits("a", 2, "b", 5, "a", 3, "a", 3), nil, hits("b", 5, "a", 3, "a", 3, "a", 2), api.OK}, {hits("a", 2, "b", 5, "a", 3), []api.Change{went("a", 2)}, hits("b", 5), api.OK}, {hits("a", 2, "b", 5, "a", 3), []api.Change{moved("a", 9)}, hits("a", 9, "b", 5), api.OK}, {hits("a", 2, "a", 3), []api.Change{went("a", 2), went("a", 3)}, nil, api.EARG},

		{two, []api.Change{came("a", 3)}, nil, api.EARG}, {two, []api.Change{came("a", 9)}, nil, api.EARG}, {two, []api.Change{went("c", 3)}, nil, api.EARG}, {two, []api.Change{moved("c", 3)}, nil, api.EARG}, {nil, []api.Change{went("", 0)}, nil, api.EARG}, {nil, []api.Change{moved("", 0)}, nil, api.EARG},
		{two, []api.Change{change(0, "a", 3)}, nil, api.EARG}, {two, []api.Change{change(4, "a", 3)}, nil, api.EARG}, {two, []api.Change{change(-1, "a", 3)}, nil, api.EARG}, {two, []api.Change{change(0, "c", 3)}, nil, api.EARG}, {two, []api.Change{change(4, "c", 3)}, nil, api.EARG}, {two, []api.Change{change(1<<32+1, "c", 3)}, nil, api.EARG}, {two, []api.Change{{}}, nil, api.EARG},
		{two, []api.Change{came("c", 3), came("c", 3)}, nil, api.EARG}, {two, []api.Change{went("a", 3), went("a", 3)}, nil, api.EARG}, {two, []api.Change{went("a", 3), moved("a", 3)}, nil, api.EARG}, {two, []api.Change{moved("a", 4), came("a", 3)}, nil, api.EARG}, {two, []api.Change{moved("a", 4), came("c", 4), change(7, "b", 2)}, nil, api.EARG}, {two, []api.Change{came("a", 3), came("c", 3)}, nil, api.EARG},
	} {
		if got, e := standing.Patch(c.old, c.l); !slices.Equal(got, c.want) || e != c.e {
			t.Errorf("%v behind %v: %v, error %d, not %v, %d", c.old, c.l, got, e, c.want, c.e)
		}
	}
}

// P34.1
func TestThen(t *testing.T) {
	two := hits("a", 3, "b", 2)
	for _, c := range []struct {
		old  []api.Hit
		a, b []api.Change
		want []api.Change
		e    api.Errno
	}{
		{two, nil, nil, nil, api.OK}, {nil, nil, nil, nil, api.OK},
		{two, []api.Change{went("a", 3)}, []api.Change{moved("b", 4)}, []api.Change{went("a", 3), moved("b", 4)}, api.OK},
		{two, []api.Change{moved("b", 4)}, []api.Change{moved("b", 2)}, nil, api.OK}, {two, []api.Change{moved("b", 4)}, []api.Change{moved("b", 5)}, []api.Change{moved("b", 5)}, api.OK},
		{two, []api.Change{went("a", 3)}, []api.Change{came("a", 3)}, nil, api.OK}, {two, []api.Change{went("a", 3)}, []api.Change{came("a", 7)}, []api.Change{moved("a", 7)}, api.OK}, {two, []api.Change{came("c", 1)}, []api.Change{went("c", 1)}, nil, api.OK}, {two, []api.Change{came("c", 1)}, []api.Change{moved("c", 9)}, []api.Change{came("c", 9)}, api.OK},
		{two, []api.Change{moved("b", 9)}, []api.Change{went("b", 9), came("c", 1)}, []api.Change{went("b", 2), came("c", 1)}, api.OK}, {two, []api.Change{went("a", 77)}, nil, []api.Change{went("a", 3)}, api.OK},
		{hits("a", 3, "a", 2), nil, nil, []api.Change{moved("a", 2)}, api.OK}, {hits("a", 2, "a", 3), nil, nil, []api.Change{moved("a", 3)}, api.OK},
		{two, []api.Change{came("a", 1)}, nil, nil, api.EARG}, {two, nil, []api.Change{came("a", 1)}, nil, api.EARG}, {two, []api.Change{came("c", 1)}, []api.Change{came("c", 1)}, nil, api.EARG}, {two, []api.Change{went("a", 3)}, []api.Change{moved("a", 1)}, nil, api.EARG}, {two, []api.Change{went("c", 1)}, []api.Change{came("c", 1)}, nil, api.EARG}, {two, nil, []api.Change{{}}, nil, api.EARG}, {two, []api.Change{change(4, "a", 1)}, nil, nil, api.EARG},
	} {
		if got, e := standing.Then(c.old, c.a, c.b); !slices.Equal(got, c.want) || e != c.e {
			t.Errorf("%v behind %v and %v: %v, error %d, not %v, %d", c.old, c.a, c.b, got, e, c.want, c.e)
		}
	}
}

// P34.2
func TestText(t *testing.T) {
	for _, c := range []struct {
		l    []api.Change
		want string
	}{
		{nil, ""}, {[]api.Change{went("a", 3), moved("b", 4)}, "-a 3\n~b 4\n"}, {[]api.Change{came("z", 0), came("a", 10)}, "+z 0\n+a 10\n"}, {[]api.Change{moved("", -5), went("x y", math.MaxInt), came("\xff\n", math.MinInt)}, "~ -5\n-x y 9223372036854775807\n+\xff\n -9223372036854775808\n"},
		{[]api.Change{{}, change(4, "a", 1), came("b", 2), change(-1, "c", 3), change(1<<32+1, "d", 4)}, "+b 2\n"}, {[]api.Change{{}}, ""}, {[]api.Change{came("a", 1), came("a", 1)}, "+a 1\n+a 1\n"},
	} {
		if got := standing.Text(c.l); got != c.want {
			t.Errorf("%v: %q, not %q", c.l, got, c.want)
		}
	}
}

// someHits is an answer of few names.
func someHits(rnd *rand.Rand) []api.Hit {
	var l []api.Hit
	for _, id := range []string{"a", "b", "c", "d", "e", "A", "\xff", "aa"} {
		if rnd.Intn(2) == 0 {
			l = append(l, api.Hit{Id: id, Score: rnd.Intn(5) - 1})
		}
	}
	sort.Slice(l, func(i, k int) bool {
		return l[i].Score > l[k].Score || l[i].Score == l[k].Score && l[i].Id < l[k].Id
	})
	return l
}

// P34.3
func TestBack(t *testing.T) {
	rnd := rand.New(rand.NewSource(341))
	for range 20000 {
		old, mid, now := someHits(rnd), someHits(rnd), someHits(rnd)
		if !standing.Good(old) {
			t.Fatal(old)
		}
		a, b := standing.Diff(old, mid), standing.Diff(mid, now)
		if got, e := standing.Patch(old, a); !slices.Equal(got, mid) || e != api.OK {
			t.Fatalf("%v behind %v: %v, error %d, not %v", old, a, got, e, mid)
		}
		if got := standing.Diff(old, old); len(got) != 0 {
			t.Fatalf("%v: %v", old, got)
		}
		got, e := standing.Then(old, a, b)
		if !slices.Equal(got, standing.Diff(old, now)) || e != api.OK {
			t.Fatalf("%v behind %v and %v: %v, error %d", old, a, b, got, e)
		}
		if behind, e := standing.Patch(old, got); !slices.Equal(behind, now) || e != api.OK {
			t.Fatalf("%v behind %v: %v, error %d, not %v", old, got, behind, e, now)
		}
	}
}

// P34.1: many hits, and many changes.
func TestMany(t *testing.T) {
	var old, now []api.Hit
	for i := range 50000 {
		old = append(old, api.Hit{Id: strconv.Itoa(i), Score: -i})
		now = append(now, api.Hit{Id: strconv.Itoa(i + 25000), Score: -2 * i})
	}
	l := standing.Diff(old, now)
	if got, e := standing.Patch(old, l); !slices.Equal(got, now) || e != api.OK || len(l) != 25000*3 {
		t.Error(len(got), e, len(l))
	}
}

// P34.1: an answer is new memory, and what is handed in stays, with the room behind its end.
func TestMemory(t *testing.T) {
	room := hits("b", 2, "a", 3, "z", 9, "y", 8)
	old := room[:2]
	changes := []api.Change{came("c", 1), moved("a", 1), went("b", 0), went("x", 0)}
	now := hits("c", 1, "a", 1)
	wasRoom, wasChanges, wasNow := slices.Clone(room), slices.Clone(changes), slices.Clone(now)
	for range 2 {
		patched, e := standing.Patch(old, changes[:3])
		same, e2 := standing.Patch(old, nil)
		then, e3 := standing.Then(old, changes[:2], changes[2:3])
		diff := standing.Diff(old, now)
		if e != api.OK || e2 != api.OK || e3 != api.OK || !standing.Good(now[1:]) {
			t.Fatal(e, e2, e3)
		}
		for _, l := range [][]api.Hit{patched, same} {
			for i := range l[:cap(l)] {
				l[:cap(l)][i] = api.Hit{Id: "spoilt"}
			}
		}
		for _, l := range [][]api.Change{then, diff} {
			for i := range l[:cap(l)] {
				l[:cap(l)][i] = went("spoilt", 0)
			}
		}
		if !slices.Equal(room, wasRoom) || !slices.Equal(changes, wasChanges) || !slices.Equal(now, wasNow) {
			t.Fatal("an argument was changed")
		}
	}
}
