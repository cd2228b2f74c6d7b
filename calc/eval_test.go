package calc_test

import (
	"strings"
	"testing"

	"deltaworks/api"
	"deltaworks/calc"
)

// TestExamples: the table of the document.
func TestExamples(t *testing.T) {
	v, e := calc.Bin(api.OpDiv, num(-7), num(2))
	isValue(t, v, e, num(-4), api.OK)
	v, e = calc.Bin(api.OpMod, num(-7), num(2))
	isValue(t, v, e, num(1), api.OK)
	v, e = calc.Bin(api.OpDiv, num(5), num(0))
	isValue(t, v, e, num(0), api.OK)
	v, e = calc.Bin(api.OpLess, num(9), str(""))
	isValue(t, v, e, num(1), api.OK)
	v, e = calc.Eval(nil, times(2, integer), []api.Value{num(3), num(5)}, choose(bin(api.OpLess, vari(0), vari(1)), vari(1), vari(0)))
	isValue(t, v, e, num(5), api.OK)
	u, e := calc.TypeOf(nil, []api.Type{pair}, get(1, vari(0)))
	isType(t, u, e, letters, api.OK)
	u, e = calc.TypeOf(nil, []api.Type{pair}, get(2, vari(0)))
	isType(t, u, e, api.Type{}, api.ErrType)
	for _, x := range []struct {
		s        string
		from, to int
		want     string
	}{{"abcdef", -3, 2, "ab"}, {"abc", 2, 99, "c"}, {"abc", 2, 1, ""}} {
		v, e = calc.Eval(nil, nil, nil, cut(text(x.s), whole(x.from), whole(x.to)))
		isValue(t, v, e, str(x.want), api.OK)
	}
	v, e = calc.Eval(nil, []api.Type{either}, []api.Value{tag(1, str("abc"))}, caseOf(vari(0), add(vari(1), whole(1)), size(vari(1))))
	isValue(t, v, e, num(3), api.OK)
	l, e := calc.Uses(let(vari(2), add(vari(3), vari(0))), 3)
	isVars(t, l, e, []int{0, 2}, api.OK)
	got, e := calc.Put(let(vari(0), add(vari(1), vari(0))), exps(get(1, vari(2))), 3)
	isExp(t, got, e, let(get(1, vari(2)), add(vari(3), get(1, vari(2)))), api.OK)
}

// TestValues: P5.3: the value of an expression of each operation.
func TestValues(t *testing.T) {
	long := strings.Repeat("abcdefghij", 10)
	vars := []api.Type{integer, letters, maybe, pair, maybe, maybe, letters}
	inner := tup(tag(1, str("x")), tup(num(3), str("y")))
	values := []api.Value{num(-4), str("abc"), tag(0, inner), tup(num(8), str("q")), tag(1, tup()), tag(2, num(6)), str(long)}
	funs := []api.Fun{
		fun(bin(api.OpSub, vari(0), vari(1)), integer, integer),
		fun(let(call(0, vari(1), vari(2)), list(vari(3), vari(0))), letters, integer, integer),
		fun(whole(7)),
	}
	byTag := func(e api.Exp) api.Exp {
		return caseOf(e, get(0, get(1, vari(7))), whole(-1), bin(api.OpMul, vari(7), vari(0)))
	}
	for i, x := range []struct {
		e    api.Exp
		want api.Value
	}{
		{vari(0), num(-4)}, {vari(6), str(long)}, {vari(2), tag(0, inner)},
		{whole(api.WordHigh), num(api.WordHigh)}, {text("a\"\\ "), str("a\"\\ ")},
		{list(), tup()}, {list(vari(1), list(vari(0)), vari(1)), tup(str("abc"), tup(num(-4)), str("abc"))},
		{get(0, vari(3)), num(8)}, {get(1, vari(3)), str("q")}, {get(2, list(vari(0), vari(1), whole(5))), num(5)},
		{tagged(maybe, 1, list()), tag(1, tup())}, {tagged(maybe, 2, vari(0)), tag(2, num(-4))},
		{byTag(vari(2)), num(3)}, {byTag(vari(4)), num(-1)}, {byTag(vari(5)), num(-24)},
		{caseOf(tagged(sums(times(8, integer)...), 7, vari(0)), whole(0), whole(1), whole(2), whole(3), whole(4), whole(5), whole(6), add(vari(7), whole(1))), num(-3)},
		{let(vari(3), list(vari(7), vari(0))), tup(tup(num(8), str("q")), num(-4))},
		{let(whole(1), let(whole(2), list(vari(7), vari(8), vari(0)))), tup(num(1), num(2), num(-4))},
		{let(let(whole(1), add(vari(7), vari(7))), let(vari(7), list(vari(8), vari(7)))), tup(num(2), num(2))},
		{list(let(whole(1), vari(7)), let(whole(2), vari(7)), let(whole(3), vari(7))), tup(num(1), num(2), num(3))},
		{choose(whole(0), whole(1), whole(2)), num(2)}, {choose(whole(1), whole(1), whole(2)), num(1)}, {choose(whole(-1), whole(1), whole(2)), num(1)}, {choose(whole(api.WordLow), whole(1), whole(2)), num(1)},
		{bin(api.OpSub, vari(0), whole(3)), num(-7)}, {bin(api.OpMul, whole(1<<16), whole(1<<16)), num(0)}, {bin(api.OpLess, vari(0), whole(3)), num(1)}, {bin(api.OpLess, whole(3), vari(0)), num(0)},
		{bin(api.OpSame, vari(2), vari(2)), num(1)}, {bin(api.OpSame, vari(2), vari(4)), num(0)}, {bin(api.OpLess, vari(4), vari(5)), num(1)}, {bin(api.OpLess, vari(5), vari(4)), num(0)}, {bin(api.OpLess, vari(4), vari(4)), num(0)},
		{size(text("")), num(0)}, {size(vari(1)), num(3)}, {size(vari(6)), num(100)},
		{join(vari(1), text("de")), str("abcde")}, {join(text(""), text("")), str("")}, {join(text(""), vari(6)), str(long)}, {join(vari(6), text("z")), str(long)},
		{join(text("z"), vari(6)), str("z" + long[:99])}, {join(text(long[:99]), text("yz")), str(long[:99] + "y")}, {join(text(long[:60]), text(long[:40])), str(long[:60] + long[:40])},
		{cut(vari(1), whole(0), whole(3)), str("abc")}, {cut(vari(1), whole(1), whole(2)), str("b")}, {cut(vari(1), whole(1), whole(3)), str("bc")}, {cut(vari(1), whole(-1), whole(9)), str("abc")},
		{cut(vari(1), whole(api.WordLow), whole(api.WordHigh)), str("abc")}, {cut(vari(1), whole(api.WordHigh), whole(api.WordLow)), str("")}, {cut(vari(1), whole(api.WordHigh), whole(api.WordHigh)), str("")}, {cut(vari(1), whole(-3), whole(-2)), str("")},
		{cut(vari(1), whole(3), whole(4)), str("")}, {cut(vari(1), whole(2), whole(2)), str("")}, {cut(vari(1), whole(2), whole(0)), str("")}, {cut(text(""), whole(0), whole(1)), str("")}, {cut(vari(6), whole(99), whole(100)), str("j")},
		{call(0, whole(9), whole(2)), num(7)}, {call(1, vari(1), vari(0), whole(1)), tup(num(-5), str("abc"))}, {call(2), num(7)},
		{let(whole(1), call(0, vari(7), vari(0))), num(5)}, {call(0, let(whole(1), vari(7)), let(whole(2), vari(7))), num(-1)},
	} {
		v, err := calc.Eval(funs, vars, values, x.e)
		isValue(t, v, err, x.want, api.OK)
		if t.Failed() {
			t.Fatal(i)
		}
	}
}

// TestValuesOfVariables: P5.3: there must be as many values as variables, each of its type; whether it is read or not.
func TestValuesOfVariables(t *testing.T) {
	vars := []api.Type{integer, letters, either, pair}
	right := []api.Value{num(1), str("a"), tag(1, str("b")), tup(num(2), str("c"))}
	wrong := func(at int, v api.Value) []api.Value {
		l := append([]api.Value{}, right...)
		l[at] = v
		return l
	}
	for i, l := range [][]api.Value{
		nil, right[:3], append(wrong(0, num(1)), num(1)), times(1000, num(1)),
		wrong(0, str("1")), wrong(0, num(1<<31)), wrong(0, num(-1<<31-1)), wrong(0, api.Value{N: 1, S: "a"}), wrong(1, num(1)), wrong(1, str("\n")), wrong(1, str(strings.Repeat("a", 101))),
		wrong(2, tag(2, num(1))), wrong(2, tag(0, str("b"))), wrong(2, str("b")), wrong(2, api.Value{Kind: api.ValueTag, N: 1}), wrong(3, tup(num(2))), wrong(3, tup(str("c"), num(2))), wrong(3, tup(num(2), str("c"), num(2))), wrong(3, tup(num(2), str("\x80"))), wrong(3, api.Value{Kind: 9}),
	} {
		for _, e := range exps(whole(1), vari(0), vari(3), let(vari(2), vari(4))) {
			v, err := calc.Eval(nil, vars, l, e)
			isValue(t, v, err, api.Value{}, api.ErrRange)
		}
		if t.Failed() {
			t.Fatal(i)
		}
	}
	v, err := calc.Eval(nil, vars, right, vari(3))
	isValue(t, v, err, right[3], api.OK)
	v, err = calc.Eval(nil, nil, []api.Value{num(1)}, whole(1))
	isValue(t, v, err, api.Value{}, api.ErrRange)
	v, err = calc.Eval(nil, nil, []api.Value{}, whole(1))
	isValue(t, v, err, num(1), api.OK)
}

// TestErrorsInOrder: ErrArg is ahead of ErrType, and this one ahead of ErrRange, wherever they stand.
func TestErrorsInOrder(t *testing.T) {
	good, wrong, bad := fun(whole(1)), fun(size(whole(1))), fun(vari(0))
	type args struct {
		funs   []api.Fun
		vars   []api.Type
		values []api.Value
		e      api.Exp
	}
	for i, x := range []struct {
		args
		want api.Errno
	}{
		{args{[]api.Fun{good, good}, times(1, integer), times(1, num(1)), vari(0)}, api.OK},
		{args{[]api.Fun{wrong, bad}, times(1, integer), times(1, num(1)), vari(0)}, api.ErrArg},
		{args{[]api.Fun{bad, wrong}, times(1, integer), times(1, num(1)), vari(0)}, api.ErrArg},
		{args{[]api.Fun{wrong}, times(1, sums()), times(1, num(1)), vari(0)}, api.ErrArg},
		{args{[]api.Fun{wrong}, times(41, integer), times(1, num(1)), vari(0)}, api.ErrArg},
		{args{[]api.Fun{wrong}, times(1, integer), times(1, num(1)), vari(1)}, api.ErrArg},
		{args{nil, times(1, sums()), nil, size(whole(1))}, api.ErrArg},
		{args{nil, times(1, integer), nil, list(size(whole(1)), vari(1))}, api.ErrArg},
		{args{nil, times(1, integer), nil, list(vari(1), size(whole(1)))}, api.ErrArg},
		{args{[]api.Fun{good, bad}, nil, times(1, num(1)), whole(1)}, api.ErrArg},
		{args{nil, times(1, sums()), nil, whole(1)}, api.ErrArg},
		{args{nil, nil, times(1, num(1)), vari(0)}, api.ErrArg},
		{args{[]api.Fun{good, wrong}, nil, nil, whole(1)}, api.ErrType},
		{args{[]api.Fun{wrong, good}, nil, times(1, num(1)), whole(1)}, api.ErrType},
		{args{nil, nil, times(1, num(1)), size(whole(1))}, api.ErrType},
		{args{nil, times(1, integer), nil, list(vari(0), size(whole(1)))}, api.ErrType},
	} {
		v, err := calc.Eval(x.funs, x.vars, x.values, x.e)
		if x.want == api.OK {
			isValue(t, v, err, num(1), api.OK)
		} else {
			isValue(t, v, err, api.Value{}, x.want)
		}
		if u, err := calc.TypeOf(x.funs, x.vars, x.e); err != x.want || !alike(u, api.Type{}) {
			t.Errorf("TypeOf: %v, %d, not %d", u, err, x.want)
		}
		if t.Failed() {
			t.Fatal(i)
		}
	}
}
