package zset

import (
	"slices"
	"strings"

	"deltaworks/api"
	"deltaworks/refuse"
)

// making is a collection in the making: rows come in any order, any number of times.
type making struct {
	rows
	at map[string]int // where the row of each key stands
}

// put adds the counts of items to what has come of their rows.
func (m *making) put(items ...counted) {
	for _, x := range items {
		i, found := m.at[x.key]
		if !found {
			i = len(m.rows)
			m.at[x.key] = i
			m.rows = append(m.rows, counted{key: x.key})
		}
		m.rows[i].n += x.n
	}
}

// settled returns a copy of rows that have come in any order, each once: in order, without those whose count is 0. They are refused if they are too many.
func (r rows) settled() rows {
	made := make(rows, len(r))
	copy(made, r)
	made = slices.DeleteFunc(made, func(x counted) bool { return x.n == 0 })
	refuse.Unless(len(made) <= api.RowsMost, api.ErrFull)
	sortBy(made, byKey())
	return made[:len(made):len(made)]
}

// order is the order of a list: that of the keys of its elements.
type order[T any] struct {
	key func(T) string
}

// byKey is the order of rows.
func byKey() order[counted] {
	return order[counted]{key: func(x counted) string { return x.key }}
}

// sortBy puts a list in order.
func sortBy[T any](l []T, by order[T]) {
	slices.SortFunc(l, func(x, y T) int { return strings.Compare(by.key(x), by.key(y)) })
}

// place returns where in a list, which is in order, the element with a key stands, or would stand, and whether it is there.
func place[T any](l []T, by order[T], key string) (int, bool) {
	return slices.BinarySearchFunc(l, key, func(x T, key string) int { return strings.Compare(by.key(x), key) })
}
