package change_test

import (
	"strings"
	"testing"

	"deltaworks/api"
	"deltaworks/change"
)

// rowsFrom returns the rows from a number on, up to another one, n times each.
func rowsFrom(from, to, n int) api.Zset { return once(n, nums(from, to)...) }

func bagFrom(from, to int) api.Data {
	return api.Data{Kind: api.DataBag, Rows: rowsFrom(from, to, 1)}
}

func setFrom(from, to int) api.Data {
	return api.Data{Kind: api.DataSet, Rows: rowsFrom(from, to, 1)}
}

func bagAdding(from, to int) api.Change {
	return api.Change{Kind: api.DataBag, Rows: rowsFrom(from, to, 1)}
}

func setting(from, to, n int) api.Change {
	return api.Change{Kind: api.DataSet, Rows: rowsFrom(from, to, n)}
}

// putsFrom returns a change that puts keys from a number on, up to another one.
func putsFrom(from, to int) api.Change {
	c := keys()
	for n := from; n < to; n++ {
		c.Keys = append(c.Keys, put(n, n))
	}
	return c
}

// TestApplyFull: P4.3: what comes must be a datum of the type.
func TestApplyFull(t *testing.T) {
	mixed := kind(api.DataTuple, texts, lists, bags)
	for i, x := range []struct {
		t    api.DataType
		d    api.Data
		c    api.Change
		want api.Errno
	}{
		{bags, bagOf(3998), bagAdding(3998, 3999), api.OK},
		{bags, bagOf(3999), bagAdding(3999, 4000), api.ErrFull},
		{bags, bagOf(3999), bagAdding(0, 1), api.OK},
		{bags, bagOf(3999), api.Change{Kind: api.DataBag, Rows: rows([2]int{0, -1}, [2]int{3999, 1})}, api.OK},
		{bags, bagOf(0), bagAdding(0, 4000), api.ErrFull},
		{bags, bagOf(3999), bagAdding(4000, 8000), api.ErrFull},
		{sets, setFrom(0, 3998), setting(3998, 3999, 1), api.OK},
		{sets, setFrom(0, 3999), setting(3999, 4000, 1), api.ErrFull},
		{sets, setFrom(0, 3999), flips([2]int{0, -1}, [2]int{3999, 1}), api.OK},
		{sets, setFrom(0, 3999), setting(4000, 8000, 1), api.ErrFull},
		{toCounts, numbers(1998), putsFrom(1998, 1999), api.OK},
		{toCounts, numbers(1999), putsFrom(1999, 2000), api.ErrFull},
		{toCounts, numbers(1999), keys(drop(0, 0), put(1999, 0)), api.OK},
		{toCounts, mapped(), putsFrom(0, 4000), api.ErrFull},
		{toBags, mapped(entry(1, bagOf(3996))), keys(inOf(1, bagAdding(3996, 3997))), api.OK},
		{toBags, mapped(entry(1, bagOf(3997))), keys(inOf(1, bagAdding(3997, 3998))), api.ErrFull},
		{toBags, mapped(entry(1, bagOf(1000))), keys(inOf(1, bagAdding(1000, 3000)), putOf(2, bagOf(2000))), api.ErrFull},
		{toBags, mapped(), keys(putOf(1, bagOf(3999)), putOf(2, bagOf(3999))), api.ErrFull},
		{kind(api.DataTuple, bags, bags), tupled(bagOf(1998), bagOf(1998)), parts(bagAdding(1998, 1999), bagAdds()), api.OK},
		{kind(api.DataTuple, bags, bags), tupled(bagOf(1998), bagOf(1998)), parts(bagAdding(1998, 1999), bagAdding(1998, 1999)), api.ErrFull},
		{mixed, tupled(texted(""), listed(), bagOf(3396)), parts(textEdit("+"+strings.Repeat("a", 300)), putting(api.DataList, nums(0, 300)...), bagAdds()), api.OK},
		{mixed, tupled(texted(""), listed(), bagOf(3397)), parts(textEdit("+"+strings.Repeat("a", 300)), putting(api.DataList, nums(0, 300)...), bagAdds()), api.ErrFull},
		// what is not one of this datum is refused ahead of what is too great
		{sets, setFrom(0, 3999), setting(3998, 4000, 1), api.ErrState},
		{sets, setFrom(0, 3999), flips([2]int{3999, 1}, [2]int{4000, 1}, [2]int{4001, -1}), api.ErrState},
		{kind(api.DataTuple, bags, values), tupled(bagOf(3997), valued(num(1))), parts(bagAdding(3997, 3998), becomes(2, 1)), api.ErrState},
		{kind(api.DataTuple, values, bags), tupled(valued(num(1)), bagOf(3997)), parts(becomes(2, 1), bagAdding(3997, 3998)), api.ErrState},
		{toCounts, numbers(1999), keys(put(-1, 1), drop(1998, 0)), api.ErrState},
		{toCounts, numbers(1999), keys(put(-1, 1), put(1998, 0)), api.ErrState},
		{toBags, mapped(entry(1, bagOf(3995)), entry(2, bagOf(0))), keys(inOf(1, bagAdding(3995, 3999)), dropOf(2, bagOf(1))), api.ErrState},
	} {
		d, e := change.Apply(x.t, x.d, x.c)
		want, _ := modelApply(x.t, x.d, x.c)
		isData(t, d, e, want, x.want)
		if t.Failed() {
			t.Fatal(i)
		}
	}
}

// TestDiffFull: P4.4: the change must be one of the type.
func TestDiffFull(t *testing.T) {
	for i, x := range []struct {
		t    api.DataType
		a, b api.Data
		want api.Errno
	}{
		{bags, bagFrom(0, 2000), bagFrom(2000, 4000), api.OK},
		{bags, bagFrom(0, 2001), bagFrom(2001, 4001), api.ErrFull},
		{bags, bagFrom(0, 3999), bagFrom(3999, 7998), api.ErrFull},
		{bags, bagFrom(0, 3999), bagFrom(1, 3999), api.OK},
		{sets, setFrom(0, 2000), setFrom(2000, 4000), api.OK},
		{sets, setFrom(0, 2000), setFrom(2000, 4001), api.ErrFull},
		{toCounts, numbers(1999), mapped(), api.OK},
		{toBags, mapped(entry(1, bagFrom(0, 2001))), mapped(entry(1, bagFrom(2001, 4001))), api.ErrFull},
		{toBags, mapped(entry(1, bagFrom(0, 2001))), mapped(entry(2, bagFrom(2001, 4001))), api.OK},
		{kind(api.DataTuple, bags, counts), tupled(bagFrom(0, 2001), counted(1)), tupled(bagFrom(2001, 4001), counted(1)), api.ErrFull},
		{kind(api.DataTuple, sets, counts), tupled(setFrom(0, 2000), counted(1)), tupled(setFrom(2000, 4000), counted(1)), api.OK},
	} {
		c, e := change.Diff(x.t, x.a, x.b)
		isChange(t, c, e, modelDiff(x.t, x.a, x.b), x.want)
		if t.Failed() {
			t.Fatal(i)
		}
	}
}

// checkFull checks what comes of two changes, against the model where there is no error.
func checkFull(t *testing.T, l []both, of func(api.DataType, api.Change, api.Change) (api.Change, api.Errno), model pairing) {
	t.Helper()
	for i, x := range l {
		want, _ := model(x.t, x.a, x.b)
		c, e := of(x.t, x.a, x.b)
		isChange(t, c, e, want, x.e)
		if t.Failed() {
			t.Fatal(i)
		}
	}
}

// TestComposeFull: P4.6: what comes must be a change of the type; what cannot be is refused ahead of that.
func TestComposeFull(t *testing.T) {
	one := bagAdding(3999, 4000)
	checkFull(t, []both{
		{t: bags, a: bagAdding(0, 2000), b: bagAdding(2000, 4000)},
		{t: bags, a: bagAdding(0, 2000), b: bagAdding(2000, 4001), e: api.ErrFull},
		{t: bags, a: bagAdding(0, 4000), b: bagAdding(4000, 8000), e: api.ErrFull},
		{t: bags, a: bagAdding(0, 4000), b: bagAdding(0, 4000)},
		{t: sets, a: setting(0, 2000, 1), b: setting(2000, 4000, -1)},
		{t: sets, a: setting(0, 2001, 1), b: setting(2001, 4001, -1), e: api.ErrFull},
		{t: sets, a: setting(0, 2500, 1), b: setting(2499, 5000, 1), e: api.ErrClash},
		{t: toCounts, a: putsFrom(0, 2000), b: putsFrom(2000, 4000)},
		{t: toCounts, a: putsFrom(0, 2000), b: putsFrom(2000, 4001), e: api.ErrFull},
		{t: toCounts, a: putsFrom(0, 4000), b: putsFrom(4000, 8000), e: api.ErrFull},
		{t: toCounts, a: putsFrom(0, 2501), b: putsFrom(2500, 5000), e: api.ErrClash},
		{t: toBags, a: keys(putOf(1, bagOf(3998))), b: keys(inOf(1, one))},
		{t: toBags, a: keys(putOf(1, bagOf(3999))), b: keys(inOf(1, one)), e: api.ErrFull},
		{t: toBags, a: keys(inOf(1, api.Change{Kind: api.DataBag, Rows: rowsFrom(3999, 4000, -1)})), b: keys(dropOf(1, bagOf(3998)))},
		{t: toBags, a: keys(inOf(1, api.Change{Kind: api.DataBag, Rows: rowsFrom(3999, 4000, -1)})), b: keys(dropOf(1, bagOf(3999))), e: api.ErrFull},
		{t: toBags, a: keys(dropOf(1, bagFrom(0, 2000))), b: keys(putOf(1, bagFrom(2000, 4000)))},
		{t: toBags, a: keys(dropOf(1, bagFrom(0, 2001))), b: keys(putOf(1, bagFrom(2001, 4001))), e: api.ErrFull},
		{t: toBags, a: keys(inOf(1, bagAdding(0, 2000))), b: keys(inOf(1, bagAdding(2000, 4000)))},
		{t: toBags, a: keys(inOf(1, bagAdding(0, 2000))), b: keys(inOf(1, bagAdding(2000, 4001))), e: api.ErrFull},
		{t: toBags, a: keys(putOf(1, bagOf(3999)), putOf(2, bagOf(1))), b: keys(inOf(1, one), putOf(2, bagOf(1))), e: api.ErrClash},
		{t: toBags, a: keys(putOf(1, bagOf(3999))), b: keys(inOf(1, one), putOf(2, bagOf(3999))), e: api.ErrFull},
		{t: kind(api.DataTuple, bags, values), a: parts(bagAdding(0, 4000), becomes(1, 2)), b: parts(bagAdding(4000, 4001), becomes(2, 3)), e: api.ErrFull},
		{t: kind(api.DataTuple, bags, values), a: parts(bagAdding(0, 4000), becomes(1, 2)), b: parts(bagAdding(4000, 4001), becomes(1, 2)), e: api.ErrClash},
		{t: kind(api.DataTuple, values, bags), a: parts(becomes(1, 2), bagAdding(0, 4000)), b: parts(becomes(1, 2), bagAdding(4000, 4001)), e: api.ErrClash},
		{t: kind(api.DataTuple, toBags, values), a: parts(keys(putOf(1, bagOf(3999))), becomes(1, 2)), b: parts(keys(inOf(1, one)), becomes(1, 2)), e: api.ErrClash},
	}, change.Compose, modelCompose)
}

// TestMergeFull: P4.7: what comes must be a change of the type; what cannot be is refused ahead of that.
func TestMergeFull(t *testing.T) {
	puts := func(k, n int) api.Change { return putting(k, words(strings.Repeat("a", n))...) }
	checkFull(t, []both{
		{t: bags, a: bagAdding(0, 2000), b: bagAdding(2000, 4000)},
		{t: bags, a: bagAdding(0, 2000), b: bagAdding(2000, 4001), e: api.ErrFull},
		{t: sets, a: setting(0, 3000, 1), b: setting(1000, 4000, 1)},
		{t: sets, a: setting(0, 3000, 1), b: setting(1000, 4001, 1), e: api.ErrFull},
		{t: sets, a: setting(0, 2500, 1), b: setting(2499, 5000, -1), e: api.ErrClash},
		{t: toCounts, a: putsFrom(0, 3000), b: putsFrom(1000, 4000)},
		{t: toCounts, a: putsFrom(0, 3000), b: putsFrom(1000, 4001), e: api.ErrFull},
		{t: toCounts, a: putsFrom(0, 4000), b: keys(put(3999, 1), put(4000, 0)), e: api.ErrClash},
		{t: toBags, a: keys(inOf(1, bagAdding(0, 2000))), b: keys(inOf(1, bagAdding(2000, 4000)))},
		{t: toBags, a: keys(inOf(1, bagAdding(0, 2000))), b: keys(inOf(1, bagAdding(2000, 4001))), e: api.ErrFull},
		{t: texts, a: puts(api.DataText, 150), b: puts(api.DataText, 150)},
		{t: texts, a: puts(api.DataText, 150), b: puts(api.DataText, 151), e: api.ErrFull},
		{t: texts, a: puts(api.DataText, 300), b: textEdit("=1 +a"), e: api.ErrClash},
		{t: lists, a: puts(api.DataList, 300), b: puts(api.DataList, 300), e: api.ErrFull},
		{t: lists, a: listEdit("-a =299 +b"), b: listEdit("=299 -a +b")},
		{t: lists, a: listEdit("=299 +b"), b: listEdit("=299 +b"), e: api.ErrFull},
		{t: toTexts, a: keys(inOf(1, puts(api.DataText, 150))), b: keys(inOf(1, puts(api.DataText, 151))), e: api.ErrFull},
		{t: toTexts, a: keys(inOf(1, puts(api.DataText, 150)), put2("a")), b: keys(inOf(1, puts(api.DataText, 151)), put2("b")), e: api.ErrClash},
		{t: kind(api.DataTuple, texts, values), a: parts(puts(api.DataText, 150), becomes(1, 2)), b: parts(puts(api.DataText, 151), becomes(1, 2)), e: api.ErrFull},
		{t: kind(api.DataTuple, texts, values), a: parts(puts(api.DataText, 150), becomes(1, 2)), b: parts(puts(api.DataText, 151), becomes(1, 3)), e: api.ErrClash},
		{t: kind(api.DataTuple, values, texts), a: parts(becomes(1, 2), puts(api.DataText, 150)), b: parts(becomes(1, 3), puts(api.DataText, 151)), e: api.ErrClash},
		{t: kind(api.DataTuple, bags, values), a: parts(bagAdding(0, 4000), becomes(1, 2)), b: parts(bagAdding(4000, 4001), becomes(1, 3)), e: api.ErrClash},
	}, change.Merge, modelMerge)
}

// put2 puts the key 2, with a text.
func put2(s string) api.KeyChange { return putOf(2, texted(s)) }
