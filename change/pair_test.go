package change_test

import (
	"math/rand"
	"testing"

	"deltaworks/api"
	"deltaworks/change"
)

// TestInvert: P4.5.
func TestInvert(t *testing.T) {
	for i, x := range []struct {
		t       api.DataType
		c, back api.Change
	}{
		{values, becomes(1, 3), becomes(3, 1)},
		{values, becomes(0, 3), becomes(3, 0)},
		{values, api.Change{}, api.Change{}},
		{counts, adds(2), adds(-2)},
		{counts, adds(0), adds(0)},
		{counts, adds(api.WordHigh), adds(-api.WordHigh)},
		{counts, adds(api.WordLow), adds(api.WordLow)},
		{texts, textEdit("-k +s =3 -e +i =1 +g"), textEdit("-s +k =3 -i +e =1 -g")},
		{texts, textEdit(""), textEdit("")},
		{lists, listEdit("+a =1"), listEdit("-a =1")},
		{bags, bagAdds([2]int{1, 2}, [2]int{2, -1}, [2]int{3, -1 << 63}), bagAdds([2]int{1, -2}, [2]int{2, 1}, [2]int{3, -1 << 63})},
		{sets, flips([2]int{1, 1}, [2]int{2, -1}), flips([2]int{1, -1}, [2]int{2, 1})},
		{unit, parts(), parts()},
		{pairs, parts(adds(1), textEdit("+a")), parts(adds(-1), textEdit("-a"))},
		{toCounts, keys(drop(1, 5), in(2, 1), put(3, 5)), keys(put(1, 5), in(2, -1), drop(3, 5))},
		{toCounts, keys(), keys()},
		{toPairs, keys(inOf(1, parts(adds(1), textEdit("-a"))), putOf(2, tupled(counted(1), texted("a")))), keys(inOf(1, parts(adds(-1), textEdit("+a"))), dropOf(2, tupled(counted(1), texted("a"))))},
		{toMaps, keys(inOf(1, keys(put(1, 2)))), keys(inOf(1, keys(drop(1, 2))))},
	} {
		c, e := change.Invert(x.t, x.c)
		isChange(t, c, e, x.back, api.OK)
		c, e = change.Invert(x.t, x.back)
		isChange(t, c, e, x.c, api.OK)
		if t.Failed() {
			t.Fatal(i)
		}
	}
	anyTimes(6, func(r *rand.Rand, x api.DataType) {
		c := anyChange(r, x, anyData(r, x))
		got, e := change.Invert(x, c)
		isChange(t, got, e, modelBack(x, c), api.OK)
	})
}

// both is two changes, and what comes of them; with an error there is nothing.
type both struct {
	t    api.DataType
	a, b api.Change
	c    api.Change
	e    api.Errno
}

func (x both) check(t *testing.T, of func(api.DataType, api.Change, api.Change) (api.Change, api.Errno)) {
	t.Helper()
	c, e := of(x.t, x.a, x.b)
	isChange(t, c, e, x.c, x.e)
	if t.Failed() {
		t.Fatalf("%v, %v", x.a, x.b)
	}
}

var clash = api.Change{}

// TestCompose: P4.6, of all but maps.
func TestCompose(t *testing.T) {
	for _, x := range []both{
		{values, becomes(1, 2), becomes(2, 3), becomes(1, 3), api.OK},
		{values, becomes(1, 2), becomes(2, 1), api.Change{}, api.OK},
		{values, becomes(0, 2), becomes(2, 0), api.Change{}, api.OK},
		{values, api.Change{}, becomes(1, 2), becomes(1, 2), api.OK},
		{values, becomes(1, 2), api.Change{}, becomes(1, 2), api.OK},
		{values, api.Change{}, api.Change{}, api.Change{}, api.OK},
		{values, becomes(1, 2), becomes(1, 2), clash, api.ErrClash},
		{values, becomes(1, 2), becomes(0, 1), clash, api.ErrClash},
		{values, becomes(1, 2), becomes(3, 1), clash, api.ErrClash},
		{counts, adds(1), adds(2), adds(3), api.OK},
		{counts, adds(1), adds(-1), adds(0), api.OK},
		{counts, adds(api.WordHigh), adds(2), adds(api.WordLow + 1), api.OK},
		{counts, adds(api.WordLow), adds(-1), adds(api.WordHigh), api.OK},
		{counts, adds(api.WordLow), adds(api.WordLow), adds(0), api.OK},
		{texts, textEdit("=1 -b +xy =1"), textEdit("-a =1 -y =1"), textEdit("-ab +x =1"), api.OK},
		{texts, textEdit("+ab"), textEdit("-ab"), textEdit(""), api.OK},
		{texts, textEdit("=1 +b =1"), textEdit("=1 -b =1"), textEdit(""), api.OK},
		{texts, textEdit("-a"), textEdit("+a"), textEdit("-a +a"), api.OK},
		{texts, textEdit(""), textEdit("-a"), textEdit("-a"), api.OK},
		{texts, textEdit("=5 -a"), textEdit(""), textEdit("=5 -a"), api.OK},
		{texts, textEdit("+a"), textEdit("-b"), clash, api.ErrClash},
		{texts, textEdit("=1 +x =1"), textEdit("=1 -b +y"), clash, api.ErrClash},
		{lists, putting(api.DataList, num(-1)), dropping(api.DataList, num(-1)), listEdit(""), api.OK},
		{lists, putting(api.DataList, num(-1)), dropping(api.DataList, num(-2)), clash, api.ErrClash},
		{bags, bagAdds([2]int{1, 1}, [2]int{2, 1}), bagAdds([2]int{1, -1}, [2]int{2, 1}, [2]int{3, 1}), bagAdds([2]int{2, 2}, [2]int{3, 1}), api.OK},
		{bags, bagAdds([2]int{1, 1<<63 - 1}), bagAdds([2]int{1, 1}), bagAdds([2]int{1, -1 << 63}), api.OK},
		{bags, bagAdds([2]int{1, -1 << 63}), bagAdds([2]int{1, -1 << 63}), bagAdds(), api.OK},
		{sets, flips([2]int{1, 1}), flips([2]int{1, -1}, [2]int{2, 1}), flips([2]int{2, 1}), api.OK},
		{sets, flips([2]int{1, -1}), flips([2]int{1, 1}), flips(), api.OK},
		{sets, flips([2]int{2, 1}), flips([2]int{1, -1}, [2]int{3, 1}), flips([2]int{1, -1}, [2]int{2, 1}, [2]int{3, 1}), api.OK},
		{sets, flips([2]int{1, 1}), flips([2]int{1, 1}, [2]int{2, -1}), clash, api.ErrClash},
		{sets, flips([2]int{1, -1}), flips([2]int{1, -1}), clash, api.ErrClash},
		{unit, parts(), parts(), parts(), api.OK},
		{pairs, parts(adds(1), textEdit("-a")), parts(adds(2), textEdit("")), parts(adds(3), textEdit("-a")), api.OK},
		{pairs, parts(adds(1), textEdit("")), parts(adds(0), textEdit("-a")), parts(adds(1), textEdit("-a")), api.OK},
		{pairs, parts(adds(1), textEdit("-a")), parts(adds(2), textEdit("-a")), clash, api.ErrClash},
		{kind(api.DataTuple, values, counts), parts(becomes(1, 2), adds(1)), parts(becomes(1, 2), adds(1)), clash, api.ErrClash},
	} {
		x.check(t, change.Compose)
	}
}

// TestComposeMaps: P4.6, of maps: what two changes do to a key, in all ways.
func TestComposeMaps(t *testing.T) {
	from := setted(num(1))
	more := flips([2]int{2, 1})
	to := setted(num(1), num(2))
	for _, x := range []both{
		{toCounts, keys(put(1, 5)), keys(in(1, 6)), keys(put(1, 11)), api.OK},
		{toCounts, keys(put(1, 5)), keys(drop(1, 5)), keys(), api.OK},
		{toCounts, keys(put(1, 5)), keys(drop(1, 6)), clash, api.ErrClash},
		{toCounts, keys(put(1, 5)), keys(put(1, 5)), clash, api.ErrClash},
		{toCounts, keys(put(1, 5)), keys(put(1, 6)), clash, api.ErrClash},
		{toCounts, keys(drop(1, 5)), keys(put(1, 6)), keys(in(1, 1)), api.OK},
		{toCounts, keys(drop(1, 5)), keys(put(1, 5)), keys(), api.OK},
		{toCounts, keys(drop(1, 5)), keys(drop(1, 5)), clash, api.ErrClash},
		{toCounts, keys(drop(1, 5)), keys(in(1, 3)), clash, api.ErrClash},
		{toCounts, keys(in(1, 2)), keys(drop(1, 7)), keys(drop(1, 5)), api.OK},
		{toCounts, keys(in(1, 2)), keys(in(1, 3)), keys(in(1, 5)), api.OK},
		{toCounts, keys(in(1, 2)), keys(in(1, -2)), keys(), api.OK},
		{toCounts, keys(in(1, 2)), keys(put(1, 2)), clash, api.ErrClash},
		{toCounts, keys(put(1, 5)), keys(put(2, 6)), keys(put(1, 5), put(2, 6)), api.OK},
		{toCounts, keys(put(2, 5)), keys(put(1, 6), in(3, 1)), keys(put(1, 6), put(2, 5), in(3, 1)), api.OK},
		{toCounts, keys(drop(1, 5), in(2, 1), put(3, 5)), keys(drop(2, 7)), keys(drop(1, 5), drop(2, 6), put(3, 5)), api.OK},
		{toCounts, keys(), keys(in(2, 7)), keys(in(2, 7)), api.OK},
		{toCounts, keys(in(2, 7)), keys(), keys(in(2, 7)), api.OK},
		{toCounts, keys(in(1, 1), put(2, 1)), keys(in(1, 1), put(2, 1)), clash, api.ErrClash},
		{toSets, keys(putOf(1, from)), keys(inOf(1, more)), keys(putOf(1, to)), api.OK},
		{toSets, keys(putOf(1, to)), keys(inOf(1, more)), clash, api.ErrClash},
		{toSets, keys(putOf(1, to)), keys(dropOf(1, from)), clash, api.ErrClash},
		{toSets, keys(dropOf(1, from)), keys(putOf(1, to)), keys(inOf(1, more)), api.OK},
		{toSets, keys(inOf(1, more)), keys(dropOf(1, to)), keys(dropOf(1, from)), api.OK},
		{toSets, keys(inOf(1, more)), keys(dropOf(1, from)), clash, api.ErrClash},
		{toSets, keys(inOf(1, more)), keys(inOf(1, more)), clash, api.ErrClash},
		{toTexts, keys(putOf(1, texted("a"))), keys(inOf(1, textEdit("=1 +b"))), keys(putOf(1, texted("ab"))), api.OK},
		{toTexts, keys(putOf(1, texted("a"))), keys(inOf(1, textEdit("=2 +b"))), clash, api.ErrClash},
		{toTexts, keys(inOf(1, textEdit("=1 +b"))), keys(dropOf(1, texted("ab"))), keys(dropOf(1, texted("a"))), api.OK},
		{toTexts, keys(inOf(1, textEdit("=1 +b"))), keys(dropOf(1, texted("ac"))), clash, api.ErrClash},
		{toTexts, keys(dropOf(1, texted("ab"))), keys(putOf(1, texted("ba"))), keys(inOf(1, textEdit("-a =1 +a"))), api.OK},
		{toValues, keys(inOf(1, becomes(1, 2))), keys(inOf(1, becomes(2, 1))), keys(), api.OK},
		{toValues, keys(inOf(1, becomes(1, 2))), keys(inOf(1, becomes(1, 2))), clash, api.ErrClash},
		{toPairs, keys(inOf(1, parts(adds(1), textEdit("+a")))), keys(inOf(1, parts(adds(-1), textEdit("-a")))), keys(), api.OK},
		{toMaps, keys(inOf(1, keys(put(1, 2)))), keys(inOf(1, keys(in(1, 3)))), keys(inOf(1, keys(put(1, 5)))), api.OK},
		{toMaps, keys(inOf(1, keys(put(1, 2)))), keys(inOf(1, keys(drop(1, 2)))), keys(), api.OK},
		{toMaps, keys(inOf(1, keys(put(1, 2)))), keys(inOf(1, keys(drop(1, 3)))), clash, api.ErrClash},
	} {
		x.check(t, change.Compose)
	}
}

// TestComposeAny: P4.6, of any changes, those that are not of what comes of the first one too.
func TestComposeAny(t *testing.T) {
	anyTimes(7, func(r *rand.Rand, x api.DataType) {
		d := anyData(r, x)
		a := anyChange(r, x, d)
		next, _ := modelApply(x, d, a)
		if r.Intn(3) == 0 {
			next = anyData(r, x)
		}
		b := anyChange(r, x, next)
		c, ok := modelCompose(x, a, b)
		both{x, a, b, c, map[bool]api.Errno{true: api.OK, false: api.ErrClash}[ok]}.check(t, change.Compose)
	})
}

// TestMerge: P4.7, of all but maps.
func TestMerge(t *testing.T) {
	for _, x := range []both{
		{values, becomes(1, 2), becomes(1, 2), becomes(1, 2), api.OK},
		{values, api.Change{}, becomes(1, 2), becomes(1, 2), api.OK},
		{values, becomes(1, 2), api.Change{}, becomes(1, 2), api.OK},
		{values, becomes(1, 2), becomes(1, 3), clash, api.ErrClash},
		{values, becomes(1, 2), becomes(3, 2), clash, api.ErrClash},
		{values, becomes(1, 2), becomes(2, 3), clash, api.ErrClash},
		{counts, adds(1), adds(2), adds(3), api.OK},
		{counts, adds(2), adds(2), adds(4), api.OK},
		{counts, adds(api.WordHigh), adds(2), adds(api.WordLow + 1), api.OK},
		{counts, adds(1), adds(-1), adds(0), api.OK},
		{texts, textEdit("=1 +x =1"), textEdit("=1 -b +y"), textEdit("=1 -b +xy"), api.OK},
		{texts, textEdit("+a"), textEdit("+b"), textEdit("+ab"), api.OK},
		{texts, textEdit("-a"), textEdit("-a"), textEdit("-a"), api.OK},
		{texts, textEdit("-a =1"), textEdit("=1 -b"), textEdit("-ab"), api.OK},
		{texts, textEdit(""), textEdit("=1 -b"), textEdit("=1 -b"), api.OK},
		{texts, textEdit("=1 -b"), textEdit(""), textEdit("=1 -b"), api.OK},
		{texts, textEdit("-a"), textEdit("-b"), clash, api.ErrClash},
		{texts, textEdit("-a"), textEdit("=1 -b"), clash, api.ErrClash},
		{lists, listEdit("=1 +x =1"), listEdit("=1 -b +y"), listEdit("=1 -b +xy"), api.OK},
		{lists, dropping(api.DataList, num(1)), dropping(api.DataList, num(2)), clash, api.ErrClash},
		{bags, bagAdds([2]int{1, 1}, [2]int{2, 1}), bagAdds([2]int{1, -1}, [2]int{2, 1}, [2]int{3, 1}), bagAdds([2]int{2, 2}, [2]int{3, 1}), api.OK},
		{sets, flips([2]int{1, 1}, [2]int{2, -1}), flips([2]int{1, 1}, [2]int{2, -1}), flips([2]int{1, 1}, [2]int{2, -1}), api.OK},
		{sets, flips([2]int{1, 1}, [2]int{3, -1}), flips([2]int{0, 1}, [2]int{2, -1}, [2]int{3, -1}, [2]int{4, 1}), flips([2]int{0, 1}, [2]int{1, 1}, [2]int{2, -1}, [2]int{3, -1}, [2]int{4, 1}), api.OK},
		{sets, flips([2]int{1, 1}), flips([2]int{1, -1}), clash, api.ErrClash},
		{sets, flips([2]int{1, -1}, [2]int{2, 1}), flips([2]int{1, 1}, [2]int{2, 1}), clash, api.ErrClash},
		{unit, parts(), parts(), parts(), api.OK},
		{pairs, parts(adds(1), textEdit("+a")), parts(adds(2), textEdit("+b")), parts(adds(3), textEdit("+ab")), api.OK},
		{pairs, parts(adds(1), textEdit("-a")), parts(adds(2), textEdit("-b")), clash, api.ErrClash},
		{kind(api.DataTuple, values, counts), parts(becomes(1, 2), adds(1)), parts(api.Change{}, adds(1)), parts(becomes(1, 2), adds(2)), api.OK},
	} {
		x.check(t, change.Merge)
	}
}

// TestMergeMaps: P4.7, of maps: what two changes do to a key, in all ways.
func TestMergeMaps(t *testing.T) {
	for _, x := range []both{
		{toCounts, keys(put(1, 5)), keys(put(1, 5)), keys(put(1, 5)), api.OK},
		{toCounts, keys(put(1, 5)), keys(put(1, 6)), clash, api.ErrClash},
		{toCounts, keys(put(1, 5)), keys(drop(1, 5)), clash, api.ErrClash},
		{toCounts, keys(put(1, 5)), keys(in(1, 5)), clash, api.ErrClash},
		{toCounts, keys(drop(1, 5)), keys(put(1, 5)), clash, api.ErrClash},
		{toCounts, keys(drop(1, 5)), keys(drop(1, 5)), keys(drop(1, 5)), api.OK},
		{toCounts, keys(drop(1, 5)), keys(drop(1, 6)), clash, api.ErrClash},
		{toCounts, keys(drop(1, 5)), keys(in(1, 5)), clash, api.ErrClash},
		{toCounts, keys(in(1, 5)), keys(put(1, 5)), clash, api.ErrClash},
		{toCounts, keys(in(1, 5)), keys(drop(1, 5)), clash, api.ErrClash},
		{toCounts, keys(in(1, 5)), keys(in(1, 5)), keys(in(1, 10)), api.OK},
		{toCounts, keys(in(1, 5)), keys(in(1, -5)), keys(), api.OK},
		{toCounts, keys(put(1, 5)), keys(put(2, 6)), keys(put(1, 5), put(2, 6)), api.OK},
		{toCounts, keys(put(2, 5), in(4, 1)), keys(drop(1, 6), put(2, 5), in(3, 1)), keys(drop(1, 6), put(2, 5), in(3, 1), in(4, 1)), api.OK},
		{toCounts, keys(), keys(in(2, 7)), keys(in(2, 7)), api.OK},
		{toCounts, keys(in(2, 7)), keys(), keys(in(2, 7)), api.OK},
		{toTexts, keys(inOf(1, textEdit("+a"))), keys(inOf(1, textEdit("+b"))), keys(inOf(1, textEdit("+ab"))), api.OK},
		{toTexts, keys(inOf(1, textEdit("-a"))), keys(inOf(1, textEdit("-b"))), clash, api.ErrClash},
		{toValues, keys(inOf(1, becomes(1, 2))), keys(inOf(1, becomes(1, 2))), keys(inOf(1, becomes(1, 2))), api.OK},
		{toValues, keys(inOf(1, becomes(1, 2))), keys(inOf(1, becomes(1, 3))), clash, api.ErrClash},
		{toSets, keys(putOf(1, setted(num(1)))), keys(putOf(1, setted(num(2)))), clash, api.ErrClash},
		{toSets, keys(inOf(1, flips([2]int{1, 1}))), keys(inOf(1, flips([2]int{1, 1}, [2]int{2, 1}))), keys(inOf(1, flips([2]int{1, 1}, [2]int{2, 1}))), api.OK},
		{toMaps, keys(inOf(1, keys(put(1, 2)))), keys(inOf(1, keys(put(1, 2), in(2, 1)))), keys(inOf(1, keys(put(1, 2), in(2, 1)))), api.OK},
		{toMaps, keys(inOf(1, keys(in(1, 2)))), keys(inOf(1, keys(in(1, -2)))), keys(), api.OK},
		{toMaps, keys(inOf(1, keys(put(1, 2)))), keys(inOf(1, keys(put(1, 3)))), clash, api.ErrClash},
	} {
		x.check(t, change.Merge)
	}
}

// TestMergeAny: P4.7, of any changes, those of two data too.
func TestMergeAny(t *testing.T) {
	anyTimes(8, func(r *rand.Rand, x api.DataType) {
		d := anyData(r, x)
		a := anyChange(r, x, d)
		if r.Intn(3) == 0 {
			d = anyData(r, x)
		}
		b := anyChange(r, x, d)
		if r.Intn(4) == 0 {
			b = a
		}
		c, ok := modelMerge(x, a, b)
		both{x, a, b, c, map[bool]api.Errno{true: api.OK, false: api.ErrClash}[ok]}.check(t, change.Merge)
	})
}
