package change_test

import (
	"math/rand"
	"testing"

	"deltaworks/api"
	"deltaworks/change"
)

// step is a change of a datum, and what comes of it.
type step struct {
	t    api.DataType
	a    api.Data
	c    api.Change
	b    api.Data
	name string
}

// steps returns changes that are, each, the one from a datum to another one.
func steps() []step {
	low, high := api.WordLow, api.WordHigh
	from, to := tup(num(1), tag(0, str("a"))), tup(num(1), tag(1, tup()))
	return []step{
		{values, valued(num(1)), becomes(1, 3), valued(num(3)), "value"},
		{values, valued(num(1)), api.Change{}, valued(num(1)), "no value"},
		{values, valued(num(0)), becomes(0, 1), valued(num(1)), "value 0"},
		{values, valued(num(1)), becomes(1, 0), valued(num(0)), "to value 0"},
		{kindOf(api.DataValue, nested), valued(from), turns(from, to), valued(to), "nested value"},
		{counts, counted(5), adds(-2), counted(3), "count"},
		{counts, counted(5), adds(0), counted(5), "no count"},
		{counts, counted(low), adds(-1), counted(high), "count below"},
		{counts, counted(high), adds(1), counted(low), "count above"},
		{counts, counted(0), adds(low), counted(low), "lowest count"},
		{counts, counted(low), adds(low), counted(0), "from the lowest count"},
		{counts, counted(high), adds(low), counted(-1), "the lowest count more"},
		{texts, texted("abcd"), textEdit("=1 -b =1 +x =1"), texted("acxd"), "text"},
		{texts, texted("abcd"), textEdit(""), texted("abcd"), "no text"},
		{texts, texted(""), textEdit("+ab"), texted("ab"), "text of nothing"},
		{texts, texted("ab"), textEdit("-ab"), texted(""), "nothing of a text"},
		{texts, texted("kitten"), textEdit("-k +s =3 -e +i =1 +g"), texted("sitting"), "kitten"},
		{lists, listed(words("ab")...), listEdit("-a =1 +a"), listed(words("ba")...), "list"},
		{lists, listed(words("ab")...), listEdit(""), listed(words("ab")...), "no list"},
		{lists, listed(nums(-3, 2)...), dropping(api.DataList, nums(-3, 2)...), listed(), "nothing of a list"},
		{kindOf(api.DataList, nested), listed(from, to), api.Change{Kind: api.DataList, Edit: []api.EditPiece{{Kind: api.EditDrop, L: []api.Value{from}}, {N: 1}}}, listed(to), "nested list"},
		{bags, bagged([2]int{1, 2}, [2]int{2, -1}), bagAdds([2]int{1, -1}, [2]int{2, 1}, [2]int{3, 4}), bagged([2]int{1, 1}, [2]int{3, 4}), "bag"},
		{bags, bagged([2]int{1, 2}), bagAdds(), bagged([2]int{1, 2}), "no bag"},
		{bags, bagged([2]int{1, -1 << 63}, [2]int{2, 1<<63 - 1}), bagAdds([2]int{1, -1 << 63}, [2]int{2, 1}), bagged([2]int{2, -1 << 63}), "great bag"},
		{sets, setted(num(1), num(2)), flips([2]int{1, -1}, [2]int{3, 1}), setted(num(2), num(3)), "set"},
		{sets, setted(num(1)), flips(), setted(num(1)), "no set"},
		{unit, tupled(), parts(), tupled(), "unit"},
		{pairs, tupled(counted(1), texted("a")), parts(adds(0), textEdit("-a")), tupled(counted(1), texted("")), "pair"},
		{pairs, tupled(counted(1), texted("a")), parts(adds(0), textEdit("")), tupled(counted(1), texted("a")), "no pair"},
		{kind(api.DataTuple, pairs, sets), tupled(tupled(counted(1), texted("a")), setted(num(1))), parts(parts(adds(2), textEdit("")), flips([2]int{1, -1}, [2]int{2, 1})), tupled(tupled(counted(3), texted("a")), setted(num(2))), "tuple of a tuple"},
		{toCounts, numbered([2]int{1, 5}, [2]int{2, 6}), keys(drop(1, 5), in(2, 1), put(3, 5)), numbered([2]int{2, 7}, [2]int{3, 5}), "map"},
		{toCounts, numbered([2]int{1, 5}, [2]int{2, 6}), keys(), numbered([2]int{1, 5}, [2]int{2, 6}), "no map"},
		{toCounts, mapped(), keys(put(-1, 0), put(0, 0)), numbered([2]int{-1, 0}, [2]int{0, 0}), "map of nothing"},
		{toCounts, numbered([2]int{2, 0}, [2]int{4, 1}), keys(put(1, 7), put(3, 8), put(5, 9)), numbered([2]int{1, 7}, [2]int{2, 0}, [2]int{3, 8}, [2]int{4, 1}, [2]int{5, 9}), "between"},
		{toCounts, numbered([2]int{1, 7}, [2]int{2, 0}, [2]int{3, 8}), keys(drop(1, 7), drop(2, 0), drop(3, 8)), mapped(), "nothing of a map"},
		{toPairs, mapped(entry(1, tupled(counted(1), texted("a")))), keys(inOf(1, parts(adds(1), textEdit("+b =1")))), mapped(entry(1, tupled(counted(2), texted("ba")))), "map of pairs"},
		{toMaps, mapped(entry(1, numbered([2]int{1, 5}))), keys(inOf(1, keys(in(1, 1), put(2, 2))), putOf(2, mapped())), mapped(entry(1, numbered([2]int{1, 6}, [2]int{2, 2})), entry(2, mapped())), "map of maps"},
		{toUnits, mapped(entry(1, tupled()), entry(2, tupled())), keys(dropOf(2, tupled())), mapped(entry(1, tupled())), "map of units"},
	}
}

// TestApply: P4.3.
func TestApply(t *testing.T) {
	for _, x := range steps() {
		t.Run(x.name, func(t *testing.T) {
			d, e := change.Apply(x.t, x.a, x.c)
			isData(t, d, e, x.b, api.OK)
		})
	}
}

// TestApplyOtherEdits: P4.3: an edit need not be the least one.
func TestApplyOtherEdits(t *testing.T) {
	d, e := change.Apply(texts, texted("ab"), textEdit("-ab +ab"))
	isData(t, d, e, texted("ab"), api.OK)
	d, e = change.Apply(lists, listed(words("aba")...), listEdit("=1 -ba +ab"))
	isData(t, d, e, listed(words("aab")...), api.OK)
}

// TestApplyRefuses: P4.3: the change must be one of this datum.
func TestApplyRefuses(t *testing.T) {
	for i, x := range []struct {
		t api.DataType
		d api.Data
		c api.Change
	}{
		{values, valued(num(2)), becomes(1, 3)},
		{values, valued(num(3)), becomes(1, 3)},
		{kindOf(api.DataValue, nested), valued(tup(num(1), tag(0, str("a")))), turns(tup(num(1), tag(0, str("b"))), tup(num(1), tag(0, str("a"))))},
		{texts, texted("ab"), textEdit("=1 -c")},
		{texts, texted("ab"), textEdit("=1 -b =1")},
		{texts, texted("ab"), textEdit("+a =1")},
		{texts, texted("ab"), textEdit("+a")},
		{lists, listed(num(1)), dropping(api.DataList, num(2))},
		{lists, listed(), dropping(api.DataList, num(2))},
		{sets, setted(num(1)), flips([2]int{1, 1})},
		{sets, setted(num(1)), flips([2]int{2, -1})},
		{sets, setted(num(1), num(3)), flips([2]int{1, -1}, [2]int{2, 1}, [2]int{3, 1})},
		{pairs, tupled(counted(1), texted("a")), parts(adds(1), textEdit("-b"))},
		{kind(api.DataTuple, values, values), tupled(valued(num(1)), valued(num(2))), parts(becomes(2, 3), becomes(2, 3))},
		{toCounts, numbered([2]int{1, 4}), keys(drop(1, 5))},
		{toCounts, numbered([2]int{1, 4}), keys(put(1, 4))},
		{toCounts, numbered([2]int{1, 4}), keys(put(1, 5))},
		{toCounts, numbered([2]int{1, 4}), keys(drop(2, 4))},
		{toCounts, numbered([2]int{1, 4}), keys(in(2, 1))},
		{toCounts, mapped(), keys(in(2, 1))},
		{toCounts, numbered([2]int{1, 4}, [2]int{2, 4}), keys(drop(1, 4), in(2, 1), put(3, 3), in(4, 1))},
		{toValues, mapped(entry(1, valued(num(1)))), keys(inOf(1, becomes(2, 1)))},
		{toSets, mapped(entry(1, setted(num(1)))), keys(inOf(1, flips([2]int{1, 1})))},
		{toSets, mapped(entry(1, setted(num(1)))), keys(dropOf(1, setted(num(1), num(2))))},
		{toBags, mapped(entry(1, bagged([2]int{1, 1}))), keys(dropOf(1, bagged([2]int{1, 2})))},
		{toTexts, mapped(entry(1, texted("a"))), keys(dropOf(1, texted("ab")))},
		{toPairs, mapped(entry(1, tupled(counted(1), texted("a")))), keys(dropOf(1, tupled(counted(1), texted("b"))))},
		{kind(api.DataMap, lists), mapped(entry(1, listed(num(1)))), keys(dropOf(1, listed(num(2))))},
		{toMaps, mapped(entry(1, numbered([2]int{1, 1}))), keys(dropOf(1, numbered([2]int{2, 1})))},
		{toMaps, mapped(entry(1, numbered([2]int{1, 1}))), keys(dropOf(1, numbered([2]int{1, 2})))},
		{toMaps, mapped(entry(1, numbered([2]int{1, 1}))), keys(inOf(1, keys(put(1, 1))))},
	} {
		d, e := change.Apply(x.t, x.d, x.c)
		if e != api.ErrState || !sameData(d, api.Data{}) {
			t.Errorf("%d: %v, %d", i, d, e)
		}
	}
}

// TestApplyAny: P4.3, of any data and changes, those that are of another datum too.
func TestApplyAny(t *testing.T) {
	anyTimes(4, func(r *rand.Rand, x api.DataType) {
		d := anyData(r, x)
		other := d
		if r.Intn(2) == 0 {
			other = anyData(r, x)
		}
		c := anyChange(r, x, other)
		want, ok := modelApply(x, d, c)
		got, e := change.Apply(x, d, c)
		isData(t, got, e, want, map[bool]api.Errno{true: api.OK, false: api.ErrState}[ok])
	})
}

// TestDiff: P4.4.
func TestDiff(t *testing.T) {
	for _, x := range steps() {
		t.Run(x.name, func(t *testing.T) {
			c, e := change.Diff(x.t, x.a, x.b)
			isChange(t, c, e, x.c, api.OK)
		})
	}
}

// TestDiffAny: P4.4, of any data.
func TestDiffAny(t *testing.T) {
	anyTimes(5, func(r *rand.Rand, x api.DataType) {
		a, b := anyData(r, x), anyData(r, x)
		c, e := change.Diff(x, a, b)
		isChange(t, c, e, modelDiff(x, a, b), api.OK)
	})
}
