package change

import (
	"iter"
	"slices"

	"deltaworks/api"
	"deltaworks/lists"
	"deltaworks/refuse"
	"deltaworks/value"
)

func keyOf(x api.KeyChange) api.Value { return x.Key }

func dataOf(x api.KeyChange) api.Data { return x.Data }

func isPut(x api.KeyChange) bool { return x.Op == api.KeyPut }

// within is what happens to a key if what belongs to it has a change: nothing, if that changes nothing.
func within(key api.Value, c api.Change) []api.KeyChange {
	if idle(c) {
		return nil
	}
	return []api.KeyChange{{Key: key, Op: api.KeyIn, Change: c}}
}

func (k mapping) invertKey(x api.KeyChange) api.KeyChange {
	switch x.Op {
	case api.KeyPut:
		x.Op = api.KeyDrop
	case api.KeyDrop:
		x.Op = api.KeyPut
	case api.KeyIn:
		x.Change = k.of.invert(x.Change)
	}
	return x
}

// ops is what two changes do to one key.
type ops struct{ a, b int }

// behind returns what happens to keys by one change of a map, and another one behind it.
func (k mapping) behind(a, b []api.KeyChange) []api.KeyChange {
	return keyByKey(a, b, keyOf, k.composeKey)
}

// composeKey returns what happens to a key by a, and b behind it, if that can be.
func (k mapping) composeKey(a, b api.KeyChange) (l []api.KeyChange, can bool) {
	switch (ops{a.Op, b.Op}) {
	case ops{api.KeyPut, api.KeyIn}:
		a.Data = k.of.apply(a.Data, b.Change)
		return []api.KeyChange{a}, true
	case ops{api.KeyPut, api.KeyDrop}:
		return nil, same(a.Data, b.Data)
	case ops{api.KeyDrop, api.KeyPut}:
		return within(a.Key, k.of.diff(a.Data, b.Data)), true
	case ops{api.KeyIn, api.KeyDrop}:
		b.Data = k.of.apply(b.Data, k.of.invert(a.Change))
		return []api.KeyChange{b}, true
	case ops{api.KeyIn, api.KeyIn}:
		return within(a.Key, k.of.compose(a.Change, b.Change)), true
	}
	return nil, false
}

// mergeKey returns what happens to a key by a and b, brought together, if that can be.
func (k mapping) mergeKey(a, b api.KeyChange) (l []api.KeyChange, can bool) {
	switch (ops{a.Op, b.Op}) {
	case ops{api.KeyPut, api.KeyPut}, ops{api.KeyDrop, api.KeyDrop}:
		return []api.KeyChange{a}, same(a.Data, b.Data)
	case ops{api.KeyIn, api.KeyIn}:
		return within(a.Key, k.of.merge(a.Change, b.Change)), true
	}
	return nil, false
}

// place is a key of one of two lists.
type place struct {
	list int
	key  string
}

// together are all keys of two lists, in order, each once: where it stands in each of them, -1 if it does not. Keys are found by their bytes, which are in the order of values.
func together(a, b []api.Value) iter.Seq2[int, int] {
	return func(yield func(int, int) bool) {
		var keys []string
		at := map[place]int{} // one more than where it stands
		for n, l := range [...][]api.Value{a, b} {
			for i, v := range l {
				key := refuse.Got(value.Key(v))
				keys = append(keys, key)
				at[place{n, key}] = i + 1
			}
		}
		slices.Sort(keys)
		for _, key := range slices.Compact(keys) {
			if !yield(at[place{0, key}]-1, at[place{1, key}]-1) {
				return
			}
		}
	}
}

// keyByKey returns what becomes of two lists, by the keys of their elements: what has a key that is in one of them alone stays; of two with one key comes what both makes of them. It is refused where that cannot be.
func keyByKey[T any](a, b []T, key func(T) api.Value, both func(x, y T) ([]T, bool)) []T {
	var made taking[T]
	can := true
walk:
	for i, k := range together(lists.Changed(a, key), lists.Changed(b, key)) {
		switch {
		case k < 0:
			made.take(a[i])
		case i < 0:
			made.take(b[k])
		default:
			var l []T
			l, can = both(a[i], b[k])
			if !can {
				break walk
			}
			made.take(l...)
		}
	}
	refuse.Unless(can, api.ErrState)
	return made
}
