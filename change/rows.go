package change

import (
	"deltaworks/api"
	"deltaworks/lists"
	"deltaworks/refuse"
	"deltaworks/zset"
)

// bag is a type of data that are collections.
type bag struct{ of looked }

func (k bag) is(d api.Data) bool {
	z := d.Rows
	d.Rows = nil
	return blankData(d) && k.of.rows(z)
}

func (k bag) fits(c api.Change) bool {
	z := c.Rows
	c.Rows = nil
	return blankChange(c) && k.of.rows(z)
}

func (k bag) empty() api.Data { return api.Data{} }

func (k bag) apply(d api.Data, c api.Change) api.Data {
	d.Rows = refuse.Got(zset.Add(d.Rows, c.Rows))
	return d
}

func (k bag) diff(a, b api.Data) api.Change {
	less := refuse.Got(zset.Neg(a.Rows))
	return api.Change{Rows: refuse.Got(zset.Add(b.Rows, less))}
}

func (k bag) invert(c api.Change) api.Change {
	return api.Change{Rows: refuse.Got(zset.Neg(c.Rows))}
}

func (k bag) compose(a, b api.Change) api.Change {
	return api.Change{Rows: refuse.Got(zset.Add(a.Rows, b.Rows))}
}

func (k bag) merge(a, b api.Change) api.Change { return k.compose(a, b) }

// set is a type of data that are sets: collections that have each row once.
type set struct{ bag }

func isThere(x api.Item) bool { return x.N == 1 }

func isFlip(x api.Item) bool { return x.N == 1 || x.N == -1 }

func rowOf(x api.Item) api.Value { return x.Row }

func (k set) is(d api.Data) bool { return k.bag.is(d) && lists.All(d.Rows, isThere) }

func (k set) fits(c api.Change) bool { return k.bag.fits(c) && lists.All(c.Rows, isFlip) }

// apply refuses what is put twice, which is there twice then, and what is dropped and not there, which is missing then.
func (k set) apply(d api.Data, c api.Change) api.Data {
	d = k.bag.apply(d, c)
	refuse.Unless(lists.All(d.Rows, isThere), api.ErrState)
	return d
}

func (k set) compose(a, b api.Change) api.Change {
	c := k.bag.compose(a, b)
	refuse.Unless(lists.All(c.Rows, isFlip), api.ErrState)
	return c
}

func (k set) merge(a, b api.Change) api.Change {
	return api.Change{Rows: keyByKey(a.Rows, b.Rows, rowOf, agreed)}
}

// agreed returns what two changes do to a row, if it is the same.
func agreed(x, y api.Item) (l []api.Item, can bool) {
	if x.N != y.N {
		return nil, false
	}
	return []api.Item{x}, true
}
