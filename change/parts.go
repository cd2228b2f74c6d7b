package change

import (
	"slices"

	"deltaworks/api"
	"deltaworks/lists"
	"deltaworks/refuse"
)

// tuple is a type of data that are tuples of data.
type tuple struct{ parts []looked }

func (k tuple) is(d api.Data) bool {
	l := d.L
	d.L = nil
	return blankData(d) && slices.EqualFunc(k.parts, l, looked.is)
}

func (k tuple) fits(c api.Change) bool {
	l := c.L
	c.L = nil
	return blankChange(c) && slices.EqualFunc(k.parts, l, looked.fits)
}

func (k tuple) empty() api.Data { return api.Data{L: lists.Changed(k.parts, looked.empty)} }

func (k tuple) apply(d api.Data, c api.Change) api.Data {
	d.L = partByPart(k.parts, d.L, c.L, looked.apply)
	return d
}

func (k tuple) diff(a, b api.Data) api.Change {
	return api.Change{L: partByPart(k.parts, a.L, b.L, looked.diff)}
}

func (k tuple) invert(c api.Change) api.Change {
	back := func(l looked, x, _ api.Change) api.Change { return l.invert(x) }
	return api.Change{L: partByPart(k.parts, c.L, c.L, back)}
}

func (k tuple) compose(a, b api.Change) api.Change {
	return api.Change{L: partByPart(k.parts, a.L, b.L, looked.compose)}
}

func (k tuple) merge(a, b api.Change) api.Change {
	return api.Change{L: partByPart(k.parts, a.L, b.L, looked.merge)}
}

// partByPart returns what of makes of the parts of two tuples.
func partByPart[A, B, C any](parts []looked, a []A, b []B, of func(looked, A, B) C) []C {
	made := make([]C, len(parts))
	for i, l := range parts {
		made[i] = of(l, a[i], b[i])
	}
	return made
}

// mapping is a type of data that are maps, from keys of the type of values to data of the type of.
type mapping struct{ keys, of looked }

func (k mapping) is(d api.Data) bool {
	keys, l := d.Keys, d.L
	d.Keys, d.L = nil, nil
	return blankData(d) && len(keys) == len(l) && k.rising(keys) && lists.All(l, k.of.is)
}

func (k mapping) fits(c api.Change) bool {
	keys := c.Keys
	c.Keys = nil
	return blankChange(c) && k.rising(lists.Changed(keys, keyOf)) && lists.All(keys, k.fitsKey)
}

// rising reports whether few keys are rising, and of the type: as a set has its rows.
func (k mapping) rising(keys []api.Value) bool {
	return k.keys.rows(lists.Changed(keys, func(key api.Value) api.Item { return api.Item{Row: key, N: 1} }))
}

func (k mapping) fitsKey(x api.KeyChange) bool {
	switch x.Op {
	case api.KeyPut, api.KeyDrop:
		return blankChange(x.Change) && k.of.is(x.Data)
	case api.KeyIn:
		return blankData(x.Data) && k.of.fits(x.Change) && !idle(x.Change)
	}
	return false
}

func (k mapping) empty() api.Data { return api.Data{} }

// apply looks at a map as at a change of the empty one, which puts all its keys: what is put then is the map that comes.
func (k mapping) apply(d api.Data, c api.Change) api.Data {
	l := k.behind(whole(d, api.KeyPut), c.Keys)
	refuse.Unless(lists.All(l, isPut), api.ErrState)
	d.Keys, d.L = lists.Changed(l, keyOf), lists.Changed(l, dataOf)
	return d
}

// diff drops one map whole, and puts the other one.
func (k mapping) diff(a, b api.Data) api.Change {
	return api.Change{Keys: k.behind(whole(a, api.KeyDrop), whole(b, api.KeyPut))}
}

func (k mapping) invert(c api.Change) api.Change {
	return api.Change{Keys: lists.Changed(c.Keys, k.invertKey)}
}

func (k mapping) compose(a, b api.Change) api.Change {
	return api.Change{Keys: k.behind(a.Keys, b.Keys)}
}

func (k mapping) merge(a, b api.Change) api.Change {
	return api.Change{Keys: keyByKey(a.Keys, b.Keys, keyOf, k.mergeKey)}
}

// whole returns what happens to the keys of a map if it is put, or dropped, whole.
func whole(d api.Data, op int) []api.KeyChange {
	l := make([]api.KeyChange, len(d.Keys))
	for i, key := range d.Keys {
		l[i] = api.KeyChange{Key: key, Op: op, Data: d.L[i]}
	}
	return l
}
