package change_test

import (
	"math/rand"
	"slices"
	"strings"
	"testing"

	"deltaworks/api"
	"deltaworks/change"
)

// tower returns a type of so many types one within the other.
func tower(n int) api.DataType {
	t := counts
	for i := range n - 1 {
		t = kind([]int{api.DataTuple, api.DataMap}[i%2], t)
	}
	return t
}

// wide returns a type of so many types: tuples of counts.
func wide(n int) api.DataType {
	t := unit
	for n--; n > 8; n -= 8 {
		t.L = append(t.L, kind(api.DataTuple, times(7, counts)...))
	}
	t.L = append(t.L, times(n, counts)...)
	return t
}

// loop returns a type that holds itself so many times.
func loop(k, n int) api.DataType {
	l := make([]api.DataType, n)
	for i := range l {
		l[i] = kind(k, l...)
	}
	return kind(k, l...)
}

// invalidTypes returns types that are not valid.
func invalidTypes() []api.DataType {
	l := []api.DataType{
		kind(-1), kind(8), kind(1 << 40), kind(-1 << 63), kind(8, counts),
		kind(api.DataMap), kind(api.DataMap, counts, counts), {Kind: api.DataMap, T: wrong, L: single(counts)},
		kind(api.DataTuple, times(9, counts)...), kind(api.DataTuple, counts, kind(8)), kind(api.DataTuple, kind(api.DataMap), counts), kind(api.DataMap, kind(-1)), kind(api.DataMap, kindOf(api.DataSet, wrong)),
		tower(6), kind(api.DataTuple, counts, tower(5)), wide(21), kind(api.DataMap, wide(20)),
		loop(api.DataTuple, 1), loop(api.DataTuple, 8), loop(api.DataMap, 1), loop(api.DataCount, 1),
	}
	for _, k := range []int{api.DataValue, api.DataCount, api.DataText, api.DataList, api.DataBag, api.DataSet} {
		l = append(l, kind(k, counts), kind(k, unit, unit))
	}
	for _, k := range []int{api.DataValue, api.DataList, api.DataBag, api.DataSet} {
		l = append(l, kindOf(k, wrong), kindOf(k, api.Type{Kind: -1}), kindOf(k, api.Type{Kind: api.TypeInt, L: []api.Type{integer}}))
	}
	return l
}

func single(l ...api.DataType) []api.DataType { return l }

// TestCheck: P4.1, of Check.
func TestCheck(t *testing.T) {
	valid := append(someTypes(), tower(5), wide(20), wide(9), kind(api.DataTuple, times(8, counts)...), kind(api.DataTuple, unit, unit), kind(api.DataMap, wide(19)),
		kindOf(api.DataCount, wrong), kindOf(api.DataText, wrong), api.DataType{Kind: api.DataTuple, T: wrong, L: single(kindOf(api.DataCount, wrong))},
		api.DataType{Kind: api.DataCount, L: []api.DataType{}}, kindOf(api.DataValue, nested), kindOf(api.DataValue, api.Type{}))
	for i, x := range valid {
		if e := change.Check(x); e != api.OK {
			t.Errorf("valid %d: %d", i, e)
		}
	}
	for i, x := range invalidTypes() {
		if e := change.Check(x); e != api.ErrArg {
			t.Errorf("invalid %d: %d", i, e)
		}
	}
}

// invalidValues returns values that are not valid, one of which holds itself.
func invalidValues() []api.Value {
	l := []api.Value{{Kind: api.ValueTuple}}
	l[0].L = l
	return []api.Value{num(api.WordHigh + 1), num(api.WordLow - 1), str("\n"), {Kind: 4}, {Kind: -1}, {S: "a"}, tag(8, num(1)), l[0]}
}

// dataCase is a type with data, or changes, that are of it, and some that are not.
type dataCase struct {
	t       api.DataType
	is, not []api.Data
}

// otherData returns data each of which has all fields of d, and one or two that the kind does not name, or another kind.
func otherData(d api.Data) (l []api.Data) {
	named := strings.Fields([...]string{api.DataValue: "V", api.DataCount: "N", api.DataText: "S", api.DataList: "List", api.DataBag: "Rows", api.DataSet: "Rows", api.DataTuple: "L", api.DataMap: "Keys L"}[d.Kind])
	all := []alteration[api.Data]{
		{"N", func(x *api.Data) { x.N = 1 }},
		{"V", func(x *api.Data) { x.V.N = 1 }},
		{"V", func(x *api.Data) { x.V.Kind = api.ValueTuple }},
		{"V", func(x *api.Data) { x.V.S = "a" }},
		{"V", func(x *api.Data) { x.V.L = nums(1, 2) }},
		{"S", func(x *api.Data) { x.S = "a" }},
		{"List", func(x *api.Data) { x.List = nums(1, 2) }},
		{"Rows", func(x *api.Data) { x.Rows = rows([2]int{1, 1}) }},
		{"Keys", func(x *api.Data) { x.Keys = nums(1, 2) }},
		{"L", func(x *api.Data) { x.L = []api.Data{counted(1)} }},
	}
	for k := -1; k <= 8; k++ {
		if k != d.Kind {
			other := d
			other.Kind = k
			l = append(l, other)
		}
	}
	return append(l, altered(d, named, all)...)
}

// alteration puts something in a field.
type alteration[T any] struct {
	field string
	alter func(x *T)
}

// altered returns what comes of x by each of these, and each two, of fields that are not named.
func altered[T any](x T, named []string, all []alteration[T]) (l []T) {
	for _, a := range all {
		for _, b := range all {
			if !slices.Contains(named, a.field) && !slices.Contains(named, b.field) {
				other := x
				a.alter(&other)
				b.alter(&other)
				l = append(l, other)
			}
		}
	}
	return l
}

func dataCases() []dataCase {
	holding := tupled(counted(1))
	holding.L[0] = holding
	cases := []dataCase{
		{values, []api.Data{valued(num(0)), valued(num(api.WordLow)), {Kind: api.DataValue, V: api.Value{L: []api.Value{}}}}, []api.Data{valued(str("a")), valued(tup())}},
		{kindOf(api.DataValue, nested), []api.Data{valued(tup(num(1), tag(0, str("a")))), valued(tup(num(1), tag(1, tup())))}, []api.Data{valued(num(1)), valued(tup(num(1), tag(2, tup())))}},
		{counts, []api.Data{counted(0), counted(api.WordHigh), counted(api.WordLow)}, []api.Data{counted(api.WordHigh + 1), counted(api.WordLow - 1), counted(1 << 32), counted(-1 << 63)}},
		{texts, []api.Data{texted(""), texted(" ~"), texted(strings.Repeat("a", 300))}, []api.Data{texted("\n"), texted("a\x7f"), texted("\xe4"), texted(strings.Repeat("a", 301))}},
		{lists, []api.Data{listed(), listed(num(2), num(1), num(2)), listed(nums(0, 300)...), {Kind: api.DataList, List: []api.Value{}}}, []api.Data{listed(nums(0, 301)...), listed(str("a")), listed(num(1), tup())}},
		{bags, []api.Data{bagged(), bagged([2]int{1, 5}, [2]int{2, -1}, [2]int{3, 1<<63 - 1}, [2]int{4, -1 << 63}), {Kind: api.DataBag, Rows: once(2, nums(0, 3999)...)}}, []api.Data{bagged([2]int{1, 0}), bagged([2]int{2, 1}, [2]int{1, 1}), bagged([2]int{1, 1}, [2]int{1, 1}), {Kind: api.DataBag, Rows: once(1, str("a"))}, bagOf(4000), bagOf(20001)}},
		{sets, []api.Data{setted(), setted(nums(-3, 3)...), setted(nums(0, 3999)...)}, []api.Data{{Kind: api.DataSet, Rows: rows([2]int{1, 2})}, {Kind: api.DataSet, Rows: rows([2]int{1, 1}, [2]int{2, -1})}, setted(num(2), num(1)), setted(num(1), num(1)), setted(num(1), str("a")), setted(nums(0, 4000)...)}},
		{unit, []api.Data{tupled(), {Kind: api.DataTuple, L: []api.Data{}}}, []api.Data{tupled(tupled())}},
		{pairs, []api.Data{tupled(counted(1), texted("a"))}, []api.Data{tupled(), tupled(counted(1)), tupled(texted("a"), counted(1)), tupled(counted(1), texted("a"), counted(1)), tupled(counted(1), texted("\n"))}},
		{kind(api.DataTuple, unit), []api.Data{tupled(tupled())}, []api.Data{holding, tupled(holding)}},
		{kind(api.DataTuple, times(8, bags)...), nil, []api.Data{tupled(times(8, bagOf(500))...)}},
		{kind(api.DataTuple, bags, bags), []api.Data{tupled(bagOf(1998), bagOf(1998)), tupled(bagOf(1998), bagOf(1999))}, []api.Data{tupled(bagOf(1999), bagOf(1999))}},
		{toCounts, []api.Data{mapped(), numbered([2]int{1, 2}, [2]int{2, 2}), numbers(1999)}, []api.Data{
			numbered([2]int{2, 1}, [2]int{1, 1}), numbered([2]int{1, 2}, [2]int{1, 3}), {Kind: api.DataMap, Keys: nums(1, 2)}, {Kind: api.DataMap, L: []api.Data{counted(1)}}, {Kind: api.DataMap, Keys: nums(1, 3), L: []api.Data{counted(1)}}, {Kind: api.DataMap, Keys: nums(1, 2), L: []api.Data{counted(1), counted(2)}},
			mapped(entry(1, texted("a"))), mapped(entryOf{str("a"), counted(1)}), mapped(entry(1, counted(1)), entry(2, counted(1<<31))), numbers(2000),
		}},
		{toTexts, []api.Data{longTexts(13, 97)}, []api.Data{longTexts(13, 98), longTexts(14, 0)}},
		{kind(api.DataMap, lists), []api.Data{mapped(entry(0, listed(nums(0, 300)...)))}, []api.Data{mapped(entry(0, listed(nums(0, 301)...)))}},
		{toMaps, []api.Data{mapped(entry(1, numbered([2]int{1, 2}))), mapped(entry(1, numbers(1998)))}, []api.Data{mapped(entry(1, numbers(1999))), mapped(entry(1, numbered([2]int{2, 1}, [2]int{1, 1})))}},
	}
	for i, x := range cases {
		for _, d := range x.is {
			cases[i].not = append(cases[i].not, otherData(d)...)
		}
	}
	for _, v := range invalidValues() {
		cases = append(cases, dataCase{values, nil, []api.Data{valued(v)}}, dataCase{lists, nil, []api.Data{listed(num(1), v)}}, dataCase{bags, nil, []api.Data{{Kind: api.DataBag, Rows: once(1, v)}}}, dataCase{toCounts, nil, []api.Data{mapped(entryOf{v, counted(1)})}})
	}
	return cases
}

// bagOf returns a bag of so many rows: its size is one more.
func bagOf(n int) api.Data { return api.Data{Kind: api.DataBag, Rows: once(1, nums(0, n)...)} }

// numbers returns a map of so many words to counts: its size is twice that, and one more.
func numbers(n int) api.Data {
	d := api.Data{Kind: api.DataMap}
	for _, key := range nums(0, n) {
		d.Keys, d.L = append(d.Keys, key), append(d.L, counted(key.N))
	}
	return d
}

// longTexts returns a map of so many words to texts of 300 bytes, and one of so many bytes: 302 for each is its size, and one more.
func longTexts(n, last int) api.Data {
	d := mapped()
	for i := range n {
		d.Keys, d.L = append(d.Keys, num(i)), append(d.L, texted(strings.Repeat("a", 300)))
	}
	d.L[n-1].S = strings.Repeat("a", last)
	return mapped(append(entriesOf(d), entry(n, texted(strings.Repeat("b", 274))))...)
}

func entriesOf(d api.Data) (l []entryOf) {
	for i, key := range d.Keys {
		l = append(l, entryOf{key, d.L[i]})
	}
	return l
}

// TestIs: P4.1, of Is.
func TestIs(t *testing.T) {
	for i, x := range dataCases() {
		for k, d := range x.is {
			if is, e := change.Is(x.t, d); !is || e != api.OK {
				t.Errorf("%d: %d is one: %t, %d", i, k, is, e)
			}
		}
		for k, d := range x.not {
			if is, e := change.Is(x.t, d); is || e != api.OK {
				t.Errorf("%d: %d is none: %t, %d", i, k, is, e)
			}
		}
	}
}

// TestIsOfAnyData: P4.1: data of a type are of it.
func TestIsOfAnyData(t *testing.T) {
	anyTimes(1, func(r *rand.Rand, x api.DataType) {
		if is, e := change.Is(x, anyData(r, x)); !is || e != api.OK {
			t.Fatalf("%v: %d", x, e)
		}
	})
}

type changeCase struct {
	t       api.DataType
	is, not []api.Change
}

// otherChanges returns changes each of which has all fields of c, and one or two that the kind does not name, or another kind.
func otherChanges(c api.Change) (l []api.Change) {
	named := strings.Fields([...]string{api.DataValue: "N Old New", api.DataCount: "N", api.DataText: "Edit", api.DataList: "Edit", api.DataBag: "Rows", api.DataSet: "Rows", api.DataTuple: "L", api.DataMap: "Keys"}[c.Kind])
	for k := -1; k <= 8; k++ {
		if k != c.Kind {
			other := c
			other.Kind = k
			l = append(l, other)
		}
	}
	return append(l, altered(c, named, alterations())...)
}

func alterations() []alteration[api.Change] {
	return []alteration[api.Change]{
		{"N", func(x *api.Change) { x.N = 1 }},
		{"Old", func(x *api.Change) { x.Old.N = 1 }},
		{"Old", func(x *api.Change) { x.Old.Kind = api.ValueTuple }},
		{"Old", func(x *api.Change) { x.Old.S = "a" }},
		{"Old", func(x *api.Change) { x.Old.L = nums(1, 2) }},
		{"New", func(x *api.Change) { x.New.N = 1 }},
		{"New", func(x *api.Change) { x.New.Kind = api.ValueTuple }},
		{"New", func(x *api.Change) { x.New.S = "a" }},
		{"New", func(x *api.Change) { x.New.L = nums(1, 2) }},
		{"Edit", func(x *api.Change) { x.Edit = ed("+a") }},
		{"Rows", func(x *api.Change) { x.Rows = rows([2]int{1, 1}) }},
		{"L", func(x *api.Change) { x.L = []api.Change{{}} }},
		{"Keys", func(x *api.Change) { x.Keys = []api.KeyChange{put(1, 1)} }},
	}
}

// otherKeys returns changes of a key that are none, as they have something of another operation, or none that there is.
func otherKeys() (l []api.Change) {
	for _, x := range []api.KeyChange{put(1, 0), put(1, 5), drop(1, 0), drop(1, 5)} {
		for _, c := range altered(api.Change{}, nil, alterations()) {
			x.Change = c
			l = append(l, keys(x))
		}
		for _, c := range []api.Change{adds(0), adds(1), parts(), {Kind: -1}} {
			x.Change = c
			l = append(l, keys(x))
		}
	}
	for _, d := range []api.Data{counted(0), counted(1), {N: 1}, {V: num(1)}, {V: str("")}, {S: "a"}, {List: nums(1, 2)}, {Rows: rows([2]int{1, 1})}, {Keys: nums(1, 2)}, {L: []api.Data{{}}}, {Kind: -1}} {
		x := in(1, 1)
		x.Data = d
		l = append(l, keys(x))
	}
	for _, op := range []int{-1, 3, 1 << 40} {
		l = append(l, keys(api.KeyChange{Key: num(1), Op: op}), keys(api.KeyChange{Key: num(1), Op: op, Data: counted(1)}), keys(api.KeyChange{Key: num(1), Op: op, Change: adds(1)}))
	}
	return l
}

func changeCases() []changeCase {
	many := func(n int) (c api.Change) {
		c.Kind = api.DataMap
		for i := range n {
			c.Keys = append(c.Keys, put(i, i))
		}
		return c
	}
	long := strings.Repeat("a", 300)
	part, key := parts(parts()), keys(in(1, 1))
	part.L[0] = part
	key.Keys[0].Change = key
	cases := []changeCase{
		{values, []api.Change{{}, becomes(1, 2), becomes(0, -1)}, []api.Change{becomes(1, 1), becomes(0, 0), {N: 2, Old: num(1), New: num(2)}, {N: -1, Old: num(1), New: num(2)}, {Old: num(1), New: num(2)}, {Old: num(1)}, {New: num(1)}, {New: str("")}, {Old: tup()}, turns(num(1), str("a")), turns(str("a"), num(1)), turns(str("a"), str("b"))}},
		{kindOf(api.DataValue, nested), []api.Change{{}, turns(tup(num(1), tag(0, str("a"))), tup(num(1), tag(1, tup())))}, []api.Change{becomes(1, 2), turns(tup(num(1), tag(1, tup())), tup(num(1), tag(1, tup())))}},
		{counts, []api.Change{adds(0), adds(-1), adds(api.WordHigh), adds(api.WordLow)}, []api.Change{adds(api.WordHigh + 1), adds(api.WordLow - 1), adds(1 << 32)}},
		{texts, []api.Change{textEdit(""), textEdit("+a"), textEdit("=1 -b +~ =2"), textEdit("-" + long + " +" + long), textEdit("=299 +a"), textEdit("-a =299"), {Kind: api.DataText, Edit: []api.EditPiece{}}},
			[]api.Change{textEdit("=1"), textEdit("=300"), textEdit("+a -b"), textEdit("=1 =1 +a"), textEdit("=0 +a"), textEdit("+"), textEdit("=300 +a"), textEdit("=300 -a"), textEdit("+" + long + "a"), textEdit("-" + long + "a"), putting(api.DataText, num(31)), putting(api.DataText, num(127)), putting(api.DataText, num('a'), str("a")), dropping(api.DataText, num(31)), dropping(api.DataText, str("a")), dropping(api.DataText, num('a'), tup())}},
		{lists, []api.Change{listEdit(""), listEdit("+a"), putting(api.DataList, nums(-5, 295)...), dropping(api.DataList, num(api.WordHigh), num(api.WordLow))},
			[]api.Change{listEdit("=1"), listEdit("+a -b"), listEdit("+"), listEdit("=300 +a"), putting(api.DataList, nums(0, 301)...), putting(api.DataList, str("a")), putting(api.DataList, num(1), tup()), dropping(api.DataList, str("a")), {Kind: api.DataList, Edit: []api.EditPiece{{Kind: 3, N: 1}}}}},
		{bags, []api.Change{bagAdds(), bagAdds([2]int{1, 5}, [2]int{2, -1 << 63}), {Kind: api.DataBag, Rows: once(-2, nums(0, 4000)...)}}, []api.Change{bagAdds([2]int{1, 0}), bagAdds([2]int{2, 1}, [2]int{1, 1}), bagAdds([2]int{1, 1}, [2]int{1, 2}), {Kind: api.DataBag, Rows: once(1, str("a"))}, {Kind: api.DataBag, Rows: once(1, nums(0, 4001)...)}}},
		{sets, []api.Change{flips(), flips([2]int{1, 1}, [2]int{2, -1}), {Kind: api.DataSet, Rows: once(-1, nums(0, 4000)...)}}, []api.Change{flips([2]int{1, 2}), flips([2]int{1, 1}, [2]int{2, -2}), flips([2]int{1, 0}), flips([2]int{2, 1}, [2]int{1, 1}), {Kind: api.DataSet, Rows: once(1, str("a"))}, {Kind: api.DataSet, Rows: once(1, nums(0, 4001)...)}}},
		{unit, []api.Change{parts()}, []api.Change{parts(parts()), part}},
		{kind(api.DataTuple, unit), []api.Change{parts(parts())}, []api.Change{part}},
		{pairs, []api.Change{parts(adds(1), textEdit("+a")), parts(adds(0), textEdit(""))}, []api.Change{parts(), parts(adds(1)), parts(textEdit("+a"), adds(1)), parts(adds(1), textEdit("+a"), adds(1)), parts(adds(1), textEdit("=1"))}},
		{toCounts, append([]api.Change{keys(), keys(put(1, 0), drop(2, 5), in(3, -1)), many(4000)}, keys(put(-1, 0), put(0, 0))), append(otherKeys(), keys(in(1, 0)), keys(put(2, 1), put(1, 1)), keys(put(1, 1), drop(1, 1)), keys(in(1, 1), in(1, 1)), keys(put(1, 1<<31)), keys(drop(1, 1<<31)), keys(in(1, 1<<31)),
			keys(putOf(1, texted("a"))), keys(dropOf(1, texted("a"))), keys(inOf(1, textEdit("+a"))), keys(api.KeyChange{Key: str("a"), Data: counted(1)}), keys(put(1, 1), api.KeyChange{Key: tup(), Op: api.KeyIn, Change: adds(1)}), many(4001))},
		{toUnits, []api.Change{keys(putOf(1, tupled()), dropOf(2, tupled()))}, []api.Change{keys(inOf(1, parts()))}},
		{toValues, []api.Change{keys(inOf(1, becomes(1, 2)))}, []api.Change{keys(inOf(1, api.Change{}))}},
		{toTexts, []api.Change{keys(inOf(1, textEdit("+a")))}, []api.Change{keys(inOf(1, textEdit(""))), keys(inOf(1, textEdit("=1")))}},
		{toBags, []api.Change{keys(inOf(1, bagAdds([2]int{1, 2}))), keys(inOf(1, api.Change{Kind: api.DataBag, Rows: once(1, nums(0, 4000)...)})), keys(putOf(1, bagOf(3999)), putOf(2, bagOf(3999)))},
			[]api.Change{keys(inOf(1, bagAdds())), keys(inOf(1, api.Change{Kind: api.DataBag, Rows: once(1, nums(0, 4001)...)})), keys(putOf(1, bagOf(4000))), keys(dropOf(1, bagOf(4000)))}},
		{toSets, []api.Change{keys(inOf(1, flips([2]int{1, -1})))}, []api.Change{keys(inOf(1, flips())), keys(inOf(1, flips([2]int{1, 2})))}},
		{toPairs, []api.Change{keys(inOf(1, parts(adds(0), textEdit("+a")))), keys(inOf(1, parts(adds(1), textEdit(""))))}, []api.Change{keys(inOf(1, parts(adds(0), textEdit(""))))}},
		{toMaps, []api.Change{keys(inOf(1, keys(put(1, 2))))}, []api.Change{keys(inOf(1, keys())), keys(inOf(1, keys(in(1, 0)))), key}},
	}
	for i, x := range cases {
		for _, c := range x.is {
			cases[i].not = append(cases[i].not, otherChanges(c)...)
		}
	}
	for _, v := range invalidValues() {
		cases = append(cases, changeCase{values, nil, []api.Change{turns(v, num(1)), turns(num(1), v)}}, changeCase{lists, nil, []api.Change{putting(api.DataList, v), dropping(api.DataList, num(1), v)}}, changeCase{bags, nil, []api.Change{{Kind: api.DataBag, Rows: once(1, v)}}}, changeCase{toCounts, nil, []api.Change{keys(api.KeyChange{Key: v, Data: counted(1)})}})
	}
	return cases
}

// putting and dropping return changes that put, and drop, values.
func putting(k int, l ...api.Value) api.Change {
	return api.Change{Kind: k, Edit: []api.EditPiece{{Kind: api.EditPut, L: l}}}
}

func dropping(k int, l ...api.Value) api.Change {
	return api.Change{Kind: k, Edit: []api.EditPiece{{Kind: api.EditDrop, L: l}}}
}

// TestFits: P4.1, of Fits.
func TestFits(t *testing.T) {
	for i, x := range changeCases() {
		for k, c := range x.is {
			if is, e := change.Fits(x.t, c); !is || e != api.OK {
				t.Errorf("%d: %d is one: %t, %d", i, k, is, e)
			}
		}
		for k, c := range x.not {
			if is, e := change.Fits(x.t, c); is || e != api.OK {
				t.Errorf("%d: %d is none: %t, %d", i, k, is, e)
			}
		}
	}
}

// TestFitsOfAnyChange: P4.1: changes of data of a type are of it.
func TestFitsOfAnyChange(t *testing.T) {
	anyTimes(2, func(r *rand.Rand, x api.DataType) {
		c := anyChange(r, x, anyData(r, x))
		if is, e := change.Fits(x, c); !is || e != api.OK {
			t.Fatalf("%v, %v: %d", x, c, e)
		}
	})
}

// TestEmpty: P4.2, of Empty.
func TestEmpty(t *testing.T) {
	least := valued(tup(num(api.WordLow), tag(0, str(""))))
	for _, x := range []struct {
		t api.DataType
		d api.Data
	}{
		{values, valued(num(api.WordLow))}, {kindOf(api.DataValue, letters), valued(str(""))}, {kindOf(api.DataValue, nested), least}, {counts, counted(0)}, {texts, texted("")}, {lists, listed()}, {bags, bagged()}, {sets, setted()}, {unit, tupled()}, {toValues, mapped()},
		{kind(api.DataTuple, kindOf(api.DataValue, nested), pairs, toMaps, unit), tupled(least, tupled(counted(0), texted("")), mapped(), tupled())},
	} {
		d, e := change.Empty(x.t)
		isData(t, d, e, x.d, api.OK)
	}
	for _, x := range someTypes() {
		if is, e := change.Is(x, must(change.Empty(x))); !is || e != api.OK {
			t.Errorf("%v: %d", x, e)
		}
	}
}

// TestNone: P4.2, of None.
func TestNone(t *testing.T) {
	for _, x := range []struct {
		t api.DataType
		c api.Change
	}{
		{values, api.Change{}}, {kindOf(api.DataValue, nested), api.Change{}}, {counts, adds(0)}, {texts, textEdit("")}, {lists, listEdit("")}, {bags, bagAdds()}, {sets, flips()}, {unit, parts()}, {toValues, keys()},
		{kind(api.DataTuple, values, pairs, toMaps, unit), parts(api.Change{}, parts(adds(0), textEdit("")), keys(), parts())},
	} {
		c, e := change.None(x.t)
		isChange(t, c, e, x.c, api.OK)
	}
	anyTimes(3, func(r *rand.Rand, x api.DataType) {
		c := must(change.None(x))
		if is, e := change.Fits(x, c); !is || e != api.OK || !nothing(c) {
			t.Fatalf("%v: %v, %d", x, c, e)
		}
		d := anyData(r, x)
		same, e := change.Apply(x, d, c)
		isData(t, same, e, d, api.OK)
	})
}
