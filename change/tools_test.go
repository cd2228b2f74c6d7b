package change_test

import (
	"math/rand"
	"slices"
	"strconv"
	"strings"
	"testing"

	"deltaworks/api"
	"deltaworks/value"
	"deltaworks/zset"
)

// num, str, tup and tag return values.
func num(n int) api.Value          { return api.Value{N: n} }
func str(s string) api.Value       { return api.Value{Kind: api.ValueText, S: s} }
func tup(l ...api.Value) api.Value { return api.Value{Kind: api.ValueTuple, L: l} }

func tag(n int, v api.Value) api.Value {
	return api.Value{Kind: api.ValueTag, N: n, L: []api.Value{v}}
}

// nums returns the words from a number on, up to another one; words those of a text.
func nums(from, to int) (l []api.Value) {
	for n := from; n < to; n++ {
		l = append(l, num(n))
	}
	return l
}

func words(s string) (l []api.Value) {
	for _, c := range []byte(s) {
		l = append(l, num(int(c)))
	}
	return l
}

// rows returns a collection: words, each with its count; once returns values, once each.
func rows(l ...[2]int) (z api.Zset) {
	for _, x := range l {
		z = append(z, api.Item{Row: num(x[0]), N: x[1]})
	}
	return z
}

func once(n int, l ...api.Value) (z api.Zset) {
	for _, v := range l {
		z = append(z, api.Item{Row: v, N: n})
	}
	return z
}

// Types of values.
var (
	integer = api.Type{Kind: api.TypeInt}
	letters = api.Type{Kind: api.TypeText}
	nested  = api.Type{Kind: api.TypeTuple, L: []api.Type{integer, {Kind: api.TypeSum, L: []api.Type{letters, {Kind: api.TypeTuple}}}}}
	wrong   = api.Type{Kind: api.TypeSum}
)

// kind returns a type of data with a type of values, if that is needed, and types of data.
func kind(k int, l ...api.DataType) api.DataType { return api.DataType{Kind: k, T: integer, L: l} }

func kindOf(k int, t api.Type) api.DataType { return api.DataType{Kind: k, T: t} }

func times[T any](n int, x T) []T { return slices.Repeat([]T{x}, n) }

// Types of data: plain ones of words, a pair of a count and a text, maps from words.
var (
	values = kind(api.DataValue)
	counts = kind(api.DataCount)
	texts  = kind(api.DataText)
	lists  = kind(api.DataList)
	bags   = kind(api.DataBag)
	sets   = kind(api.DataSet)
	unit   = kind(api.DataTuple)
	pairs  = kind(api.DataTuple, counts, texts)

	toValues = kind(api.DataMap, values)
	toCounts = kind(api.DataMap, counts)
	toTexts  = kind(api.DataMap, texts)
	toBags   = kind(api.DataMap, bags)
	toSets   = kind(api.DataMap, sets)
	toUnits  = kind(api.DataMap, unit)
	toPairs  = kind(api.DataMap, pairs)
	toMaps   = kind(api.DataMap, toCounts)
)

// valued, counted, texted, listed, bagged, setted, tupled and mapped return data.
func valued(v api.Value) api.Data     { return api.Data{Kind: api.DataValue, V: v} }
func counted(n int) api.Data          { return api.Data{Kind: api.DataCount, N: n} }
func texted(s string) api.Data        { return api.Data{Kind: api.DataText, S: s} }
func listed(l ...api.Value) api.Data  { return api.Data{Kind: api.DataList, List: l} }
func bagged(l ...[2]int) api.Data     { return api.Data{Kind: api.DataBag, Rows: rows(l...)} }
func setted(l ...api.Value) api.Data  { return api.Data{Kind: api.DataSet, Rows: once(1, l...)} }
func tupled(l ...api.Data) api.Data   { return api.Data{Kind: api.DataTuple, L: l} }
func numbered(l ...[2]int) api.Data   { return mapped(entries(l)...) }
func entry(k int, d api.Data) entryOf { return entryOf{num(k), d} }

type entryOf struct {
	key  api.Value
	data api.Data
}

func entries(l [][2]int) (made []entryOf) {
	for _, x := range l {
		made = append(made, entry(x[0], counted(x[1])))
	}
	return made
}

func mapped(l ...entryOf) api.Data {
	d := api.Data{Kind: api.DataMap}
	for _, x := range l {
		d.Keys, d.L = append(d.Keys, x.key), append(d.L, x.data)
	}
	return d
}

// becomes, adds, edits, bagAdds, flips, parts and keys return changes.
func becomes(a, b int) api.Change           { return turns(num(a), num(b)) }
func adds(n int) api.Change                 { return api.Change{Kind: api.DataCount, N: n} }
func bagAdds(l ...[2]int) api.Change        { return api.Change{Kind: api.DataBag, Rows: rows(l...)} }
func flips(l ...[2]int) api.Change          { return api.Change{Kind: api.DataSet, Rows: rows(l...)} }
func parts(l ...api.Change) api.Change      { return api.Change{Kind: api.DataTuple, L: l} }
func keys(l ...api.KeyChange) api.Change    { return api.Change{Kind: api.DataMap, Keys: l} }
func textEdit(s string) api.Change          { return api.Change{Kind: api.DataText, Edit: ed(s)} }
func listEdit(s string) api.Change          { return api.Change{Kind: api.DataList, Edit: ed(s)} }
func put(k, n int) api.KeyChange            { return putOf(k, counted(n)) }
func drop(k, n int) api.KeyChange           { return dropOf(k, counted(n)) }
func in(k, n int) api.KeyChange             { return inOf(k, adds(n)) }
func putOf(k int, d api.Data) api.KeyChange { return api.KeyChange{Key: num(k), Data: d} }

func turns(a, b api.Value) api.Change {
	return api.Change{Kind: api.DataValue, N: 1, Old: a, New: b}
}

func dropOf(k int, d api.Data) api.KeyChange {
	return api.KeyChange{Key: num(k), Op: api.KeyDrop, Data: d}
}

func inOf(k int, c api.Change) api.KeyChange {
	return api.KeyChange{Key: num(k), Op: api.KeyIn, Change: c}
}

// ed returns an edit as the document tells it: "=2 -ab +x" keeps two values, drops a and b, and puts x.
func ed(s string) (e []api.EditPiece) {
	for _, w := range strings.Fields(s) {
		switch w[0] {
		case '-':
			e = append(e, api.EditPiece{Kind: api.EditDrop, L: words(w[1:])})
		case '+':
			e = append(e, api.EditPiece{Kind: api.EditPut, L: words(w[1:])})
		default:
			n, err := strconv.Atoi(w[1:])
			if err != nil {
				panic(err)
			}
			e = append(e, api.EditPiece{Kind: api.EditKeep, N: n})
		}
	}
	return e
}

func sameValue(a, b api.Value) bool {
	return a.Kind == b.Kind && a.N == b.N && a.S == b.S && slices.EqualFunc(a.L, b.L, sameValue)
}

func sameRows(a, b api.Zset) bool {
	return slices.EqualFunc(a, b, func(x, y api.Item) bool { return x.N == y.N && sameValue(x.Row, y.Row) })
}

// sameData and sameChange compare all fields; an empty list is no list.
func sameData(a, b api.Data) bool {
	return a.Kind == b.Kind && a.N == b.N && a.S == b.S && sameValue(a.V, b.V) && slices.EqualFunc(a.List, b.List, sameValue) && sameRows(a.Rows, b.Rows) && slices.EqualFunc(a.Keys, b.Keys, sameValue) && slices.EqualFunc(a.L, b.L, sameData)
}

func sameChange(a, b api.Change) bool {
	return a.Kind == b.Kind && a.N == b.N && sameValue(a.Old, b.Old) && sameValue(a.New, b.New) && slices.EqualFunc(a.Edit, b.Edit, samePiece) && sameRows(a.Rows, b.Rows) && slices.EqualFunc(a.L, b.L, sameChange) && slices.EqualFunc(a.Keys, b.Keys, sameKey)
}

func samePiece(x, y api.EditPiece) bool {
	return x.Kind == y.Kind && x.N == y.N && slices.EqualFunc(x.L, y.L, sameValue)
}

func sameKey(x, y api.KeyChange) bool {
	return x.Op == y.Op && sameValue(x.Key, y.Key) && sameData(x.Data, y.Data) && sameChange(x.Change, y.Change)
}

// must returns what is returned without an error.
func must[T any](x T, e api.Errno) T {
	if e != api.OK {
		panic("error " + strconv.Itoa(int(e)))
	}
	return x
}

// isData fails unless a datum is returned without an error, or the zero datum with the error e.
func isData(t *testing.T, got api.Data, err api.Errno, want api.Data, e api.Errno) {
	t.Helper()
	if e != api.OK {
		want = api.Data{}
	}
	if err != e || !sameData(got, want) {
		t.Errorf("%v, %d, not %v, %d", got, err, want, e)
	}
}

func isChange(t *testing.T, got api.Change, err api.Errno, want api.Change, e api.Errno) {
	t.Helper()
	if e != api.OK {
		want = api.Change{}
	}
	if err != e || !sameChange(got, want) {
		t.Errorf("%v, %d, not %v, %d", got, err, want, e)
	}
}

// someTypes returns types of all kinds, also within others.
func someTypes() []api.DataType {
	named := api.DataType{Kind: api.DataMap, T: nested, L: []api.DataType{kindOf(api.DataSet, letters)}}
	return []api.DataType{
		values, counts, texts, lists, bags, sets, unit, pairs, toValues, toCounts, toTexts, toBags, toSets, toUnits, toPairs, toMaps, named,
		kindOf(api.DataValue, nested), kindOf(api.DataList, nested), kindOf(api.DataBag, nested), kindOf(api.DataSet, letters),
		kind(api.DataTuple, values, sets, toCounts), kind(api.DataTuple, pairs, unit, lists), kind(api.DataMap, lists), kind(api.DataMap, kind(api.DataTuple, toSets, values)),
	}
}

// smooth reports whether a type has neither texts nor lists.
func smooth(t api.DataType) bool {
	return t.Kind != api.DataText && t.Kind != api.DataList && !slices.ContainsFunc(t.L, func(part api.DataType) bool { return !smooth(part) })
}

// anyValue returns one of few values of a type.
func anyValue(r *rand.Rand, t api.Type) api.Value {
	switch t.Kind {
	case api.TypeInt:
		return num([]int{97, 98, 99, api.WordLow}[r.Intn(4)])
	case api.TypeText:
		return str([]string{"", "a", "b\"\\"}[r.Intn(3)])
	case api.TypeSum:
		n := r.Intn(len(t.L))
		return tag(n, anyValue(r, t.L[n]))
	}
	v := tup()
	for _, part := range t.L {
		v.L = append(v.L, anyValue(r, part))
	}
	return v
}

// anySet returns a set of few values of a type.
func anySet(r *rand.Rand, t api.Type) api.Zset {
	var l []api.Item
	for range r.Intn(4) {
		l = append(l, api.Item{Row: anyValue(r, t), N: 1})
	}
	return must(zset.Once(must(zset.Make(l))))
}

// anyCount returns a count that is not 0, some of them as great as can be.
func anyCount(r *rand.Rand) int {
	return []int{1, 1, 1, -1, -1, 2, -2, 1<<63 - 1, -1 << 63}[r.Intn(9)]
}

// anyData returns a small datum of a type.
func anyData(r *rand.Rand, t api.DataType) api.Data {
	d := api.Data{Kind: t.Kind}
	switch t.Kind {
	case api.DataValue:
		d.V = anyValue(r, t.T)
	case api.DataCount:
		d.N = []int{0, 1, 2, api.WordLow, api.WordHigh}[r.Intn(5)]
	case api.DataText:
		for range r.Intn(4) {
			d.S += string(rune('a' + r.Intn(2)))
		}
	case api.DataList:
		for range r.Intn(4) {
			d.List = append(d.List, anyValue(r, t.T))
		}
	case api.DataBag:
		d.Rows = anySet(r, t.T)
		for i := range d.Rows {
			d.Rows[i].N = anyCount(r)
		}
	case api.DataSet:
		d.Rows = anySet(r, t.T)
	case api.DataTuple:
		for _, part := range t.L {
			d.L = append(d.L, anyData(r, part))
		}
	case api.DataMap:
		for _, x := range anySet(r, t.T) {
			d.Keys, d.L = append(d.Keys, x.Row), append(d.L, anyData(r, t.L[0]))
		}
	}
	return d
}

// anyTimes gives a source of numbers and each of some types to use, many times.
func anyTimes(seed int64, use func(r *rand.Rand, t api.DataType)) {
	r := rand.New(rand.NewSource(seed))
	for range 100 {
		for _, t := range someTypes() {
			use(r, t)
		}
	}
}

func keyText(v api.Value) string { return must(value.Key(v)) }
