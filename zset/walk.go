package zset

import (
	"iter"

	"deltaworks/api"
	"deltaworks/refuse"
	"deltaworks/value"
)

// together are the rows of both, in order, each with what a and what b has of it.
func together(a, b rows) iter.Seq2[counted, counted] {
	return func(yield func(counted, counted) bool) {
		i, k := 0, 0
		for i < len(a) || k < len(b) {
			var x, y counted
			switch {
			case k == len(b), i < len(a) && a[i].key < b[k].key:
				x, y = a[i], counted{key: a[i].key}
				i++
			case i == len(a), b[k].key < a[i].key:
				x, y = counted{key: b[k].key}, b[k]
				k++
			default:
				x, y = a[i], b[k]
				i++
				k++
			}
			if !yield(x, y) {
				return
			}
		}
	}
}

// combine returns the rows with the counts that of makes of what both have; they are refused if they are too many.
func combine(a, b rows, of func(x, y counted) int) rows {
	var made rows
	full := false
walk:
	for x, y := range together(a, b) {
		n := of(x, y)
		switch {
		case n == 0:
			continue walk
		case len(made) == api.RowsMost:
			full = true
			break walk
		}
		made = append(made, counted{x.key, n})
	}
	refuse.Unless(!full, api.ErrFull)
	return made
}

// pairs gives take each row of one collection with each one of the other. They come in order, as tuples are ordered by their first parts first.
func pairs(a, b api.Zset, take func(counted)) {
	refuse.Unless(len(a)*len(b) <= api.RowsMost, api.ErrFull)
	for _, x := range a {
		for _, y := range b {
			key, e := value.Key(api.Value{Kind: api.ValueTuple, L: []api.Value{x.Row, y.Row}})
			refuse.Unless(e == api.OK, api.ErrFull)
			take(counted{key, x.N * y.N})
		}
	}
}
