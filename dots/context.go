package dots

import (
	"slices"

	"scholia/api"
)

// Tidy is a context in its one form: the vector as far as all are known one by one, the others behind it in order, each once.
func Tidy(c api.Context) api.Context {
	t := api.Context{Upto: inBounds(c.Upto)}
	cloud := slices.Clone(c.Cloud)
	slices.SortFunc(cloud, Compare)
	for _, d := range slices.Compact(cloud) {
		if !Valid(d) || Has(t.Upto, d) {
			continue
		}
		if d.N == t.Upto[d.Rep]+1 {
			t.Upto[d.Rep] = d.N
		} else {
			t.Cloud = append(t.Cloud, d)
		}
	}
	return t
}

// Knows tells whether a context has a dot.
func Knows(c api.Context, d api.Dot) bool {
	return Has(c.Upto, d) || Valid(d) && slices.Contains(c.Cloud, d)
}

// Add is a context with some dots more.
func Add(c api.Context, l ...api.Dot) api.Context {
	return Tidy(api.Context{Upto: c.Upto, Cloud: slices.Concat(c.Cloud, l)})
}

// Union is what one of two contexts has.
func Union(a, b api.Context) api.Context {
	return Tidy(api.Context{Upto: Join(a.Upto, b.Upto), Cloud: slices.Concat(a.Cloud, b.Cloud)})
}

// Inside tells whether one context has nothing that another one has not.
func Inside(a, b api.Context) bool {
	union, tidy := Union(a, b), Tidy(b)
	return union.Upto == tidy.Upto && slices.Equal(union.Cloud, tidy.Cloud)
}

// Whole tells whether a context is a vector alone.
func Whole(c api.Context) bool {
	return len(Tidy(c).Cloud) == 0
}
