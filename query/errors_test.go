package query_test

import (
	"testing"

	"deltaworks/api"
	"deltaworks/query"
)

// TestOrderOfErrors: ErrArg comes ahead of ErrType, this of ErrRange, this of ErrFull, wherever in a program they are.
func TestOrderOfErrors(t *testing.T) {
	notFormed, notTyped := made(api.ViewNeg, []int{-1}), made(api.ViewKeep, []int{0}, vari(0))
	square := made(api.ViewJoin, []int{0, 0}, whole(0), whole(0), list(vari(0), vari(1)))
	full := ins(many(0, 142), nil)
	bad := ins(each([]int{1}), nil)
	for _, x := range []struct {
		p api.Prog
		l []api.Zset
		e api.Errno
	}{
		{pairs(notTyped, notFormed), bad, api.ErrArg},
		{pairs(notFormed, notTyped), bad, api.ErrArg},
		{pairs(square, notTyped), bad, api.ErrType},
		{pairs(square, notTyped), full, api.ErrType},
		{pairs(square), ins(full[0], each([]int{1})), api.ErrRange},
		{pairs(square), full, api.ErrFull},
		{pairs(square), ins(full[0][:141], nil), api.OK},
	} {
		rels, e := query.Eval(x.p, x.l)
		if e != x.e || e != api.OK && len(rels) > 0 {
			t.Errorf("%v, %d, not %d", told(rels), e, x.e)
		}
		outs, e := query.Answers(x.p, x.l)
		areRels(t, outs, e, nil, x.e)
	}
	// Functions that have no types come behind all that is not formed, an invalid answer too.
	p := pairs(notFormed)
	p.Funs = []api.Fun{{Body: get(0, whole(1))}}
	isChecked(t, p, api.ErrArg)
	p.Views = nil
	isChecked(t, p, api.ErrType)
	p.Outs = []int{2}
	isChecked(t, p, api.ErrArg)
	p.Outs, p.Inputs = nil, append(p.Inputs, tower(7))
	isChecked(t, p, api.ErrArg)
	// A test, a value, and a row type that are not valid come ahead of all types.
	for _, r := range []api.Rule{tested(copies(), vari(0), vari(9)), rule(terms(is(num(1)), is(str("\n")))), rule(vars(0, 0), atom(0, 0), not(1, 3))} {
		isChecked(t, pairs(notTyped, ruled(0, pair, r)), api.ErrArg)
	}
	isChecked(t, pairs(notTyped, ruled(0, tower(7))), api.ErrArg)
}

// TestFull: ErrFull, if a relation would have more than 20000 rows, whichever it is, and whether it is answered or not.
func TestFull(t *testing.T) {
	all, next := many(0, 20000), many(20000, 1)
	moved := list(bin(api.OpAdd, part(0), whole(1)), part(1))
	behind := func(v api.View) api.Prog {
		p := pairs(v, made(api.ViewKeep, []int{2}, whole(0)))
		p.Outs = []int{3}
		return p
	}
	moves := func(n int) api.View {
		return ruled(0, pair, copies(), rule(terms(is(num(n)), is(num(0)))))
	}
	for i, x := range []struct {
		v api.View
		l []api.Zset
		e api.Errno
	}{
		{made(api.ViewMap, []int{0}, moved), ins(all, nil), api.OK},
		{made(api.ViewMap, []int{0}, moved, vari(0)), ins(all, nil), api.ErrFull},
		{made(api.ViewMap, []int{0}, moved, vari(0)), ins(all[:19999], nil), api.OK},
		{made(api.ViewSum, []int{0, 1}), ins(all, next), api.ErrFull},
		{made(api.ViewSum, []int{0, 1, 0, 1, 1, 0}), ins(all, all), api.OK},
		{made(api.ViewJoin, []int{0, 1}, whole(0), whole(0), list(part(0), get(0, vari(1)))), ins(all[:10001], all[:2]), api.ErrFull},
		{made(api.ViewJoin, []int{0, 1}, whole(0), whole(0), list(part(0), get(0, vari(1)))), ins(all[:10000], all[:2]), api.OK},
		{made(api.ViewJoin, []int{0, 1}, whole(0), whole(0), list(part(0), get(0, vari(1)))), ins(all, all), api.ErrFull},
		{moves(0), ins(all, nil), api.OK},
		{moves(20000), ins(all, nil), api.ErrFull},
		{moves(20000), ins(all[:19999], nil), api.OK},
		{fold(api.FoldCount, 0, part(0)), ins(all, nil), api.OK},
	} {
		got, e := query.Answers(behind(x.v), x.l)
		if e != x.e || len(got) != map[api.Errno]int{api.OK: 1}[e] {
			t.Errorf("%d: %d, not %d", i, e, x.e)
		}
	}
}

// TestFullInBetween: what is added up may have any number of rows as long as it is not all of it.
func TestFullInBetween(t *testing.T) {
	// 142 by 142 rows come with a count, and go with another: 20164 of them in between.
	a, b := many(0, 142), many(0, 142)
	for _, x := range many(1000, 142) {
		a = append(a, row(x.Row, -1))
	}
	mod := func(e api.Exp) api.Exp { return bin(api.OpMod, e, whole(1000)) }
	v := made(api.ViewJoin, []int{0, 1}, whole(0), whole(0), list(mod(part(0)), get(0, vari(1))))
	isLast(t, pairs(v), ins(a, b), nil, api.OK)
	isLast(t, pairs(made(api.ViewMap, []int{0}, list(mod(part(0)), part(1)))), ins(a, nil), nil, api.OK)
	for _, n := range []int{1 << 32, -1 << 32} { // of these counts the products are 0 in 64 bits
		for i := range a {
			a[i].N = n
			b[i%142].N = n
		}
		isLast(t, pairs(v), ins(a, b), nil, api.OK)
	}
}
