package change

import (
	"slices"

	"deltaworks/api"
	"deltaworks/lists"
	"deltaworks/value"
)

// size returns the size of a datum, or some number above DataMost as soon as it is greater than that: a datum may hold itself.
func size(d api.Data) int {
	n := 0
	var count func(d api.Data)
	count = func(d api.Data) {
		n += 1 + len(d.S) + len(d.List) + len(d.Rows) + len(d.Keys)
		for _, part := range d.L {
			if n > api.DataMost {
				return
			}
			count(part)
		}
	}
	count(d)
	return n
}

// idle reports whether a change of a type changes nothing.
func idle(c api.Change) bool {
	return c.N == 0 && len(c.Edit)+len(c.Rows)+len(c.Keys) == 0 && lists.All(c.L, idle)
}

func blankValue(v api.Value) bool {
	return v.Kind == 0 && v.N == 0 && v.S == "" && len(v.L) == 0
}

func blankData(d api.Data) bool {
	return d.Kind == 0 && d.N == 0 && blankValue(d.V) && d.S == "" && len(d.List)+len(d.Rows)+len(d.Keys)+len(d.L) == 0
}

func blankChange(c api.Change) bool {
	return c.Kind == 0 && c.N == 0 && blankValue(c.Old) && blankValue(c.New) && len(c.Edit)+len(c.Rows)+len(c.L)+len(c.Keys) == 0
}

// sameValue reports whether two values, which are valid, are the same.
func sameValue(a, b api.Value) bool {
	n, _ := value.Compare(a, b)
	return n == 0
}

func sameItem(a, b api.Item) bool { return a.N == b.N && sameValue(a.Row, b.Row) }

// same reports whether two data of one type are the same.
func same(a, b api.Data) bool {
	return a.N == b.N && sameValue(a.V, b.V) && a.S == b.S && slices.EqualFunc(a.List, b.List, sameValue) && slices.EqualFunc(a.Rows, b.Rows, sameItem) && slices.EqualFunc(a.Keys, b.Keys, sameValue) && slices.EqualFunc(a.L, b.L, same)
}

// renewed returns a copy of a list, in which each element has been made new.
func renewed[T any](l []T, renew func(*T)) []T {
	if len(l) == 0 {
		return nil
	}
	made := make([]T, len(l))
	copy(made, l)
	for i := range made {
		renew(&made[i])
	}
	return made
}

// These make new all memory of what they are given, so that it is shared with nothing.

func renewValue(v *api.Value) { v.L = renewed(v.L, renewValue) }

func renewItem(x *api.Item) { renewValue(&x.Row) }

func renewPiece(p *api.EditPiece) { p.L = renewed(p.L, renewValue) }

func renewKey(x *api.KeyChange) {
	renewValue(&x.Key)
	renewData(&x.Data)
	renewChange(&x.Change)
}

func renewData(d *api.Data) {
	renewValue(&d.V)
	d.List = renewed(d.List, renewValue)
	d.Rows = renewed(d.Rows, renewItem)
	d.Keys = renewed(d.Keys, renewValue)
	d.L = renewed(d.L, renewData)
}

func renewChange(c *api.Change) {
	renewValue(&c.Old)
	renewValue(&c.New)
	c.Edit = renewed(c.Edit, renewPiece)
	c.Rows = renewed(c.Rows, renewItem)
	c.L = renewed(c.L, renewChange)
	c.Keys = renewed(c.Keys, renewKey)
}

// taking is a list in the making.
type taking[T any] []T

// take puts elements behind the others.
func (l *taking[T]) take(more ...T) { *l = append(*l, more...) }
