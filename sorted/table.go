package sorted

import (
	"cmp"
	"slices"
)

// Table is pairs, by rising keys: by each key stands what is at its place in vals. Its zero is empty.
type Table[K cmp.Ordered, V any] struct {
	keys []K
	vals []V
}

// Seek is the place of the first key that is not below one; whether it is that.
func (t *Table[K, V]) Seek(key K) (int, bool) {
	if t == nil {
		return 0, false
	}
	return slices.BinarySearch(t.keys, key)
}

// Put puts something by a key; whether nothing was there.
func (t *Table[K, V]) Put(key K, val V) bool {
	if t == nil {
		return false
	}
	at, there := t.Seek(key)
	if there {
		t.vals[at] = val
		return false
	}
	t.keys = slices.Insert(t.keys, at, key)
	t.vals = slices.Insert(t.vals, at, val)
	return true
}

// Get is what stands by a key; false: nothing.
func (t *Table[K, V]) Get(key K) (V, bool) {
	at, there := t.Seek(key)
	if !there {
		var none V
		return none, false
	}
	return t.vals[at], true
}

// Cut takes a key out; whether it was there.
func (t *Table[K, V]) Cut(key K) bool {
	at, there := t.Seek(key)
	if !there {
		return false
	}
	t.keys = slices.Delete(t.keys, at, at+1)
	t.vals = slices.Delete(t.vals, at, at+1)
	return true
}

// Len is how many there are.
func (t *Table[K, V]) Len() int {
	if t == nil {
		return 0
	}
	return len(t.keys)
}

// Keys is all keys, rising.
func (t *Table[K, V]) Keys() []K {
	if t == nil {
		return nil
	}
	return slices.Clone(t.keys)
}
