package calc_test

import (
	"testing"

	"deltaworks/api"
	"deltaworks/calc"
)

// TestUses: P5.5: variables from outside that are read, rising; those that are bound are none of them.
func TestUses(t *testing.T) {
	for i, x := range []struct {
		e    api.Exp
		vars int
		want []int
	}{
		{whole(1), 0, nil}, {whole(1), 40, nil}, {vari(0), 1, []int{0}}, {vari(2), 3, []int{2}}, {vari(39), 40, []int{39}},
		{list(vari(3), vari(1), vari(3), vari(0)), 4, []int{0, 1, 3}},
		{let(vari(0), vari(2)), 2, []int{0}}, {let(vari(1), add(vari(2), vari(0))), 2, []int{0, 1}}, {let(whole(1), let(vari(0), vari(1))), 0, nil},
		{let(let(vari(1), vari(2)), vari(2)), 2, []int{1}}, {list(let(whole(1), vari(1)), vari(0)), 1, []int{0}},
		{caseOf(vari(1), vari(2), vari(0), vari(2)), 2, []int{0, 1}}, {caseOf(list(), vari(0)), 0, nil},
		{choose(whole(0), vari(1), vari(0)), 2, []int{0, 1}},
		{call(19, vari(3), vari(1)), 4, []int{1, 3}}, {call(0, times(8, vari(2))...), 4, []int{2}}, {call(0), 0, nil},
		{whole(3), 4, nil}, {get(2, vari(1)), 4, []int{1}}, {bin(3, whole(1), vari(0)), 4, []int{0}}, {tagged(maybe, 1, vari(0)), 2, []int{0}}, {call(3), 4, nil},
		{size(whole(1)), 1, nil}, {get(0, text("")), 0, nil}, {join(vari(0), whole(1)), 1, []int{0}}, // whether it is typed is no matter
	} {
		l, err := calc.Uses(x.e, x.vars)
		isVars(t, l, err, x.want, api.OK)
		if t.Failed() {
			t.Fatal(i)
		}
	}
	freeOrNot(t, 0, call(20), false)
	freeOrNot(t, 0, call(-1), false)
	freeOrNot(t, 0, call(0, times(9, whole(1))...), false)
}

// TestPut: P5.6: expressions stand for variables, and variables that are bound get other numbers.
func TestPut(t *testing.T) {
	inner := let(vari(0), bin(api.OpMul, vari(1), vari(0)))
	for i, x := range []struct {
		e    api.Exp
		l    []api.Exp
		vars int
		want api.Exp
	}{
		{whole(1), nil, 0, whole(1)}, {text("a"), nil, 40, text("a")}, {list(), exps(vari(0)), 1, list()},
		{vari(0), exps(vari(39)), 40, vari(39)}, {vari(1), exps(vari(0), size(vari(4))), 5, size(vari(4))}, {vari(39), variables(40), 40, vari(39)},
		{add(vari(0), vari(1)), exps(vari(1), vari(0)), 2, add(vari(1), vari(0))}, {list(vari(0), vari(0)), exps(inner), 1, list(inner, inner)},
		// Fewer variables, as many, and more than there were.
		{let(vari(0), add(vari(2), vari(1))), exps(whole(5), vari(0)), 1, let(whole(5), add(vari(1), vari(0)))},
		{let(vari(0), add(vari(2), vari(1))), exps(whole(5), vari(0)), 2, let(whole(5), add(vari(2), vari(0)))},
		{let(vari(0), add(vari(2), vari(1))), exps(vari(3), vari(2)), 4, let(vari(3), add(vari(4), vari(2)))},
		{let(whole(1), vari(0)), nil, 3, let(whole(1), vari(3))},
		// What binds variables is put where others are bound.
		{let(whole(1), vari(0)), exps(inner), 1, let(whole(1), let(vari(0), bin(api.OpMul, vari(2), vari(0))))},
		{let(whole(1), let(vari(0), list(vari(0), vari(1), vari(2)))), exps(inner), 1, let(whole(1), let(inner1(), list(inner2(), vari(1), vari(2))))},
		{caseOf(vari(0), vari(1), add(vari(1), size(vari(1)))), exps(vari(1)), 2, caseOf(vari(1), vari(2), add(vari(2), size(vari(2))))},
		{caseOf(vari(0), vari(0), list(vari(1), vari(0))), exps(inner), 1, caseOf(inner, inner1(), list(vari(1), inner1()))},
		{let(vari(0), vari(1)), exps(let(vari(1), let(vari(2), list(vari(3), vari(2), vari(1), vari(0))))), 2, let(let(vari(1), let(vari(2), list(vari(3), vari(2), vari(1), vari(0)))), vari(2))},
		// What operations name stays as it is.
		{tagged(maybe, 1, get(7, vari(0))), exps(text("\"")), 0, tagged(maybe, 1, get(7, text("\"")))},
		{call(19, vari(0), bin(11, vari(0), whole(-5))), exps(cut(vari(1), vari(0), vari(0))), 2, call(19, cut(vari(1), vari(0), vari(0)), bin(11, cut(vari(1), vari(0), vari(0)), whole(-5)))},
	} {
		e, err := calc.Put(x.e, x.l, x.vars)
		isExp(t, e, err, x.want, api.OK)
		isExp(t, model{}.put(x.e, x.l, x.vars), api.OK, x.want, api.OK)
		if t.Failed() {
			t.Fatal(i)
		}
	}
}

// inner1 and inner2 are what inner is within one, and within two variables that are bound.
func inner1() api.Exp { return let(vari(0), bin(api.OpMul, vari(2), vari(0))) }
func inner2() api.Exp { return let(vari(0), bin(api.OpMul, vari(3), vari(0))) }

// TestPutTooMuch: P5.6: ErrRange, if the result has too many nodes, or too many one within the other; ErrArg is ahead of it.
func TestPutTooMuch(t *testing.T) {
	for i, x := range []struct {
		e    api.Exp
		l    []api.Exp
		want api.Errno
	}{
		{list(vari(0), vari(0)), exps(wide(29)), api.OK},
		{list(vari(0), vari(0)), exps(wide(30)), api.ErrRange},
		{list(vari(0), vari(1)), exps(wide(30), wide(29)), api.OK},
		{list(vari(0), vari(1)), exps(wide(29), wide(31)), api.ErrRange},
		{list(times(8, list(times(6, vari(0))...))...), exps(whole(1)), api.OK},
		{list(times(8, list(times(6, vari(0))...))...), exps(size(whole(1))), api.ErrRange},
		{vari(0), exps(wide(60)), api.OK},
		{whole(1), exps(wide(60)), api.OK},
		{deep(10, vari(0)), exps(deep(11, whole(1))), api.OK},
		{deep(10, vari(0)), exps(deep(12, whole(1))), api.ErrRange},
		{let(vari(0), whole(1)), exps(deep(19, whole(1))), api.OK},
		{let(vari(0), whole(1)), exps(deep(20, whole(1))), api.ErrRange},
		{let(whole(1), vari(0)), exps(deep(20, whole(1))), api.ErrRange},
		{list(vari(0)), exps(deep(20, whole(1)), vari(9)), api.ErrArg},
		{list(vari(0), vari(2)), exps(deep(20, whole(1)), vari(0)), api.ErrArg},
	} {
		e, err := calc.Put(x.e, x.l, 1)
		want := api.Exp{}
		if x.want == api.OK {
			want = model{}.put(x.e, x.l, 1)
		}
		isExp(t, e, err, want, x.want)
		if t.Failed() {
			t.Fatal(i)
		}
	}
}

// TestPutAsModel: P5.6, of many expressions.
func TestPutAsModel(t *testing.T) {
	counts := map[api.Errno]int{}
	anyTimes(8, 4000, func(m maker) {
		e := m.typed(m.anyType())
		others := maker{model: m.model, r: m.r}
		for range m.r.Intn(5) {
			others.vars = append(others.vars, m.anyType())
		}
		var l []api.Exp
		for _, t := range m.vars {
			l = append(l, others.typed(t))
		}
		vars := len(others.vars)
		want, err := m.put(e, l, vars), api.OK
		if !m.formed(want, vars, true) {
			want, err = api.Exp{}, api.ErrRange
		}
		counts[err]++
		got, f := calc.Put(e, l, vars)
		isExp(t, got, f, want, err)
		if t.Failed() {
			t.Fatalf("%v for the variables of %v", l, e)
		}
	})
	if counts[api.OK] < 1000 || counts[api.ErrRange] < 100 {
		t.Errorf("%v", counts)
	}
}
