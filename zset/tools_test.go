package zset_test

import (
	"math"
	"math/rand"
	"slices"
	"strconv"

	"deltaworks/api"
	"deltaworks/value"
)

// low and high are the limits of counts.
const (
	low  = math.MinInt
	high = math.MaxInt
)

// num, text, tuple and tag return values, it and row items, kind a type.
func num(n int) api.Value            { return api.Value{N: n} }
func text(s string) api.Value        { return api.Value{Kind: api.ValueText, S: s} }
func tuple(l ...api.Value) api.Value { return api.Value{Kind: api.ValueTuple, L: l} }

func tag(n int, v api.Value) api.Value {
	return api.Value{Kind: api.ValueTag, N: n, L: []api.Value{v}}
}

func it(n, many int) api.Item            { return api.Item{Row: num(n), N: many} }
func row(v api.Value, many int) api.Item { return api.Item{Row: v, N: many} }
func items(l ...api.Item) api.Zset       { return l }
func kind(k int, l ...api.Type) api.Type { return api.Type{Kind: k, L: l} }
func times[T any](n int, x T) []T        { return slices.Repeat([]T{x}, n) }

// first and second are the collections A and B of the document.
func first() api.Zset  { return items(it(1, 2), it(2, -1), it(5, 1)) }
func second() api.Zset { return items(it(1, -2), it(2, 3), it(7, 1)) }

// words returns a collection of so many words, from one on.
func words(from, n int) (z api.Zset) {
	for i := range n {
		z = append(z, it(from+i, 1))
	}
	return z
}

// tower returns a value of so many words and tuples one within the other.
func tower(n int) api.Value {
	v := num(1)
	for range n - 1 {
		v = tuple(v)
	}
	return v
}

// wide returns a tuple of the word 0 so many times.
func wide(n int) api.Value { return tuple(times(n, num(0))...) }

// rising returns values of all kinds in the order of values.
func rising() []api.Value {
	return []api.Value{
		num(api.WordLow), num(-256), num(-1), num(0), num(1), num(256), num(api.WordHigh),
		text(""), text("10"), text("2"), text("a"), text("aa"), text("b"),
		tuple(), tuple(num(-1)), tuple(num(1)), tuple(num(1), num(0)), tuple(num(2)), tuple(text("")), tuple(tuple(), num(3)),
		tag(0, num(9)), tag(0, text("")), tag(1, num(-1)), tag(7, tuple(num(1))),
	}
}

// each returns items of these rows, with the same count.
func each(n int, rows ...api.Value) (l api.Zset) {
	for _, v := range rows {
		l = append(l, row(v, n))
	}
	return l
}

// invalidRows returns values that are not valid.
func invalidRows() []api.Value {
	loop := []api.Value{{Kind: api.ValueTuple}}
	loop[0].L = loop
	return []api.Value{num(api.WordLow - 1), num(api.WordHigh + 1), text("\n"), {Kind: 4}, {Kind: -1}, {S: "a"}, tag(8, num(1)), {Kind: api.ValueTag}, tower(7), wide(9), tuple(num(1), text("\x7f")), loop[0]}
}

// invalid returns collections that are not valid, none of them too long.
func invalid() []api.Zset {
	l := []api.Zset{
		items(it(1, 0)),
		items(it(1, 1), it(2, 0)),
		items(it(1, 0), it(2, 1)),
		items(it(1, 1), it(1, 1)),
		items(it(1, 1), it(1, -1)),
		items(it(2, 1), it(1, 1)),
		items(it(1, 1), it(3, 1), it(2, 1)),
		each(1, text("aa"), text("a")),
		each(1, text("a"), num(1)),
		each(1, tuple(), text("a")),
		each(1, tag(0, num(1)), tuple()),
		each(1, tuple(num(1), num(0)), tuple(num(1))),
		append(words(0, 19999), it(19998, 1)),
		append(words(0, 19999), it(19999, 0)),
	}
	for _, v := range invalidRows() {
		l = append(l, each(1, v), each(1, num(api.WordLow), v), each(1, v, tag(7, tag(7, num(1)))), each(0, v))
	}
	return l
}

func sameValue(a, b api.Value) bool {
	return a.Kind == b.Kind && a.N == b.N && a.S == b.S && slices.EqualFunc(a.L, b.L, sameValue)
}

// same compares collections, where none is an empty one.
func same(a, b api.Zset) bool {
	return slices.EqualFunc(a, b, func(x, y api.Item) bool { return x.N == y.N && sameValue(x.Row, y.Row) })
}

// must returns what is returned without an error.
func must[T any](x T, e api.Errno) T {
	if e != api.OK {
		panic("error " + strconv.Itoa(int(e)))
	}
	return x
}

// tally returns how often each row is among items, by its text.
func tally(l []api.Item) map[string]int {
	counts := map[string]int{}
	for _, x := range l {
		counts[must(value.Text(x.Row))] += x.N
	}
	return counts
}

// tallied returns the collection of the rows with these texts, by other means than the program's.
func tallied(counts map[string]int) (z api.Zset) {
	for s, n := range counts {
		if n != 0 {
			z = append(z, row(must(value.Parse(s)), n))
		}
	}
	slices.SortFunc(z, func(a, b api.Item) int { return must(value.Compare(a.Row, b.Row)) })
	return z
}

// anyCount returns a count, which can be 0.
func anyCount(r *rand.Rand) int {
	if r.Intn(8) == 0 {
		return []int{low, high, 1 << 62, -1 << 62}[r.Intn(4)]
	}
	return r.Intn(7) - 3
}

// anyItems returns so many items, in any order, of few rows; anyZset a collection of some of them.
func anyItems(r *rand.Rand, n int) (l []api.Item) {
	rows := rising()
	for range n {
		l = append(l, row(rows[r.Intn(len(rows))], anyCount(r)))
	}
	return l
}

func anyZset(r *rand.Rand) api.Zset { return tallied(tally(anyItems(r, r.Intn(30)))) }
