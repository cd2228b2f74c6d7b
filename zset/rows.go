package zset

import (
	"deltaworks/api"
	"deltaworks/refuse"
	"deltaworks/value"
)

// counted is what a collection has of a row: the key of the row, and its count, which is 0 if the collection does not have it. Keys are faster compared than rows, and in the same order.
type counted struct {
	key string
	n   int
}

// rows are what a collection has, in order; while it is in the making they are in any order.
type rows []counted

// keyOf returns the key of a row, which is refused unless it is valid.
func keyOf(row api.Value) string {
	return refuse.Got(value.Key(row))
}

// checked returns the rows of a collection, which is refused unless it is valid.
func checked(z api.Zset) rows {
	refuse.Unless(len(z) <= api.RowsMost, api.ErrLong)
	r := make(rows, len(z))
	for i, item := range z {
		r[i] = counted{keyOf(item.Row), item.N}
		refuse.Unless(item.N != 0 && (i == 0 || r[i-1].key < r[i].key), api.ErrArg)
	}
	return r
}

// zset returns rows as a collection. They are read from their keys, so that they share no memory with those from which the keys were made.
func (r rows) zset() api.Zset {
	z := make(api.Zset, len(r))
	for i, x := range r {
		row, _ := value.OfKey(x.key)
		z[i] = api.Item{Row: row, N: x.n}
	}
	return z
}

// take puts a row behind the others, unless its count is 0.
func (r *rows) take(x counted) {
	if x.n != 0 {
		*r = append(*r, x)
	}
}

// recount returns the rows with the counts that of makes of theirs.
func (r rows) recount(of func(counted) int) rows {
	var made rows
	for _, x := range r {
		made.take(counted{x.key, of(x)})
	}
	return made
}

func (x counted) once() int {
	if x.n > 0 {
		return 1
	}
	return 0
}

func (x counted) more() int { return max(x.n, 0) }

// less is not a maximum, as the least count of all, negated, is below 0 again.
func (x counted) less() int {
	if x.n > 0 {
		return 0
	}
	return -x.n
}

func (x counted) plus(y counted) int { return x.n + y.n }

// flip returns what x becoming x and y does to how often the row is there once.
func (x counted) flip(y counted) int {
	sum := counted{n: x.plus(y)}
	return sum.once() - x.once()
}
