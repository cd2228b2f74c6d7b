package query_test

import (
	"testing"

	"deltaworks/api"
	"deltaworks/query"
)

// typeIs fails unless the last view of a program whose inputs have types has a type, or the program has none.
func typeIs(t *testing.T, inputs []api.Type, v api.View, want api.Type, e api.Errno) {
	t.Helper()
	p := program(inputs, v)
	isChecked(t, p, e)
	types, err := query.Types(p)
	if e == api.OK {
		areTypes(t, types, err, append(inputs, want), e)
	}
}

// TestTypes: P6.1: each view has the row type that the chapter says, if what it is made of has the right ones.
func TestTypes(t *testing.T) {
	inputs := []api.Type{pair, named, either, tower(6), tower(5), pair}
	none := api.Type{}
	for _, x := range []struct {
		v api.View
		t api.Type
		e api.Errno
	}{
		{made(api.ViewMap, []int{1}, part(1)), letters, api.OK},
		{made(api.ViewMap, []int{1}, part(1), text("a"), text(""), part(1)), letters, api.OK},
		{made(api.ViewMap, []int{1}, list(vari(0), vari(0))), tuples(named, named), api.OK},
		{made(api.ViewMap, []int{1}, part(1), part(1), part(1), part(0)), none, api.ErrType},
		{made(api.ViewMap, []int{1}, part(2)), none, api.ErrType},
		{made(api.ViewMap, []int{2}, part(0)), none, api.ErrType},
		{made(api.ViewMap, []int{3}, list(vari(0))), none, api.ErrType},
		{made(api.ViewKeep, []int{1}, part(0)), named, api.OK},
		{made(api.ViewKeep, []int{1}, part(1)), none, api.ErrType},
		{made(api.ViewKeep, []int{1}, vari(0)), none, api.ErrType},
		{made(api.ViewSum, []int{2}), either, api.OK},
		{made(api.ViewSum, []int{0, 5, 0}), pair, api.OK},
		{made(api.ViewSum, []int{0, 5, 1}), none, api.ErrType},
		{made(api.ViewSum, []int{3, 4}), none, api.ErrType},
		{made(api.ViewNeg, []int{2}), either, api.OK},
		{made(api.ViewOnce, []int{3}), tower(6), api.OK},
		{made(api.ViewJoin, []int{1, 0}, part(0), part(1), vari(1)), pair, api.OK},
		{made(api.ViewJoin, []int{1, 0}, part(0), part(1), list(vari(1), vari(0))), tuples(pair, named), api.OK},
		{made(api.ViewJoin, []int{1, 0}, part(1), part(1), vari(1)), none, api.ErrType},
		{made(api.ViewJoin, []int{1, 0}, vari(0), vari(0), vari(1)), none, api.ErrType},
		{made(api.ViewJoin, []int{0, 1}, part(0), part(0), get(2, vari(1))), none, api.ErrType},
		{fold(api.FoldCount, 1, part(1)), tuples(letters, integer), api.OK},
		{fold(api.FoldSum, 1, part(1), part(0)), tuples(letters, integer), api.OK},
		{fold(api.FoldMin, 1, vari(0), part(0)), tuples(named, integer), api.OK},
		{fold(api.FoldMax, 1, list(), part(0)), tuples(unit, integer), api.OK},
		{fold(api.FoldMax, 1, part(0), part(1)), none, api.ErrType},
		{fold(api.FoldSum, 1, part(0), vari(0)), none, api.ErrType},
		{fold(api.FoldMin, 1, part(3), part(0)), none, api.ErrType},
		{fold(api.FoldCount, 4, vari(0)), tuples(tower(5), integer), api.OK},
		{fold(api.FoldCount, 3, vari(0)), none, api.ErrType},
		{fold(api.FoldSum, 3, vari(0), whole(1)), none, api.ErrType},
		{ruled(0, named, rule(vars(0, 1), atom(1, 0, 1))), named, api.OK},
	} {
		typeIs(t, inputs, x.v, x.t, x.e)
	}
	// With 38 types in it a key is in a row type of 40, with 39 in one of 41.
	five := tuples(times(4, integer)...)
	key := func(n int) api.Type { return tuples(five, five, five, five, five, five, tuples(times(n, integer)...)) }
	typeIs(t, []api.Type{key(6)}, fold(api.FoldCount, 0, vari(0)), tuples(key(6), integer), api.OK)
	typeIs(t, []api.Type{key(7)}, fold(api.FoldCount, 0, vari(0)), none, api.ErrType)
	areTypes(t, must(query.Types(sample())), api.OK, times(6, pair), api.OK)
}

// TestTypesAhead: what a view is made of has the type that it got.
func TestTypesAhead(t *testing.T) {
	ahead := []api.View{
		made(api.ViewMap, []int{0}, list(part(0), text("x"))),
		fold(api.FoldCount, 2, part(1)),
		made(api.ViewKeep, []int{3}, part(1)),
		ruled(0, tuples(letters), rule(vars(0), atom(4, 0, 1)), rule(vars(0), atom(6, 0))),
		ruled(0, tuples(letters), rule(vars(0), atom(5, 0), not(3, 0, 1), atom(0, 1, 1))),
	}
	p := pairs(append(ahead, made(api.ViewMap, []int{6}, exp(api.ExpSize, 0, part(0))))...)
	areTypes(t, must(query.Types(p)), api.OK, []api.Type{pair, pair, named, tuples(letters, integer), tuples(letters, integer), tuples(letters), tuples(letters), integer}, api.OK)
	p.Views[2].F[0] = part(0)
	isChecked(t, p, api.ErrType)
}

// TestTypesOfRules: a variable has one type, that of each place at which it stands; values are of the type there; tests are words.
func TestTypesOfRules(t *testing.T) {
	inputs := []api.Type{pair, named, either, mixed, letters, unit}
	for _, x := range []struct {
		t api.Type
		r api.Rule
		e api.Errno
	}{
		{pair, rule(vars(0, 1), atom(0, 0, 1)), api.OK},
		{named, rule(vars(0, 1), atom(0, 0, 1)), api.ErrType},
		{pair, rule(vars(0, 1), atom(0, 0, 1), atom(1, 0, 2)), api.OK},
		{pair, rule(vars(0, 1), atom(0, 0, 1), atom(1, 0, 1)), api.ErrType},
		{pair, rule(vars(0, 0), atom(0, 0, 1), atom(0, 2, 1), atom(1, 3, 2)), api.ErrType},
		{pair, rule(vars(0, 0), atom(0, 0, 1), atom(1, 3, 2), not(1, 0, 3)), api.ErrType},
		{pair, rule(vars(0, 0), atom(0, 0, 1), atom(1, 3, 2), not(1, 0, 2)), api.OK},
		{pair, rule(vars(0, 0), atom(1, 0, 0)), api.ErrType},
		{pair, rule(vars(0, 0), atom(0, 0)), api.ErrType},
		{pair, rule(vars(0, 0), atom(0, 0, 0, 0)), api.ErrType},
		{pair, rule(vars(0, 0), atom(0, 0, 0), not(1, 0)), api.ErrType},
		{pair, rule(vars(0, 0), atom(0, 0, 0), atom(5)), api.OK},
		{pair, rule(vars(0, 0), atom(0, 0, 0), atom(5, 0)), api.ErrType},
		{single, rule(vars(0), atom(2, 0)), api.ErrType},
		{tuples(letters), rule(vars(0), atom(4, 0)), api.ErrType},
		{tuples(letters, letters), rule(vars(0, 0), atom(1, 1, 0), not(4, 0)), api.ErrType},
		{tuples(either, integer), rule(vars(1, 0), atom(3, 1, 0)), api.OK},
		{tuples(sums(letters, integer), integer), rule(vars(1, 0), atom(3, 1, 0)), api.ErrType},
		{pair, rule(terms(is(num(1)), is(num(2)))), api.OK},
		{pair, rule(terms(is(num(1)), is(str("")))), api.ErrType},
		{mixed, rule(terms(is(tag(1, str("a"))), is(num(1)))), api.OK},
		{mixed, rule(terms(is(tag(0, str("a"))), is(num(1)))), api.ErrType},
		{unit, rule(nil, api.Atom{Rel: 1, Args: terms(is(num(1)), is(str("a")))}), api.OK},
		{unit, rule(nil, api.Atom{Rel: 1, Args: terms(is(num(1)), is(num(1)))}), api.ErrType},
		{unit, rule(nil, api.Atom{Rel: 1, Not: true, Args: terms(is(num(1)), is(num(1)))}), api.ErrType},
		{unit, rule(nil, api.Atom{Rel: 1, Args: terms(is(num(1)))}), api.ErrType},
		{pair, rule(vars(0, 0), api.Atom{Rel: 0, Args: times(1000, vars(0)[0])}), api.ErrType},
	} {
		typeIs(t, inputs, ruled(0, x.t, x.r), x.t, x.e)
	}
	for _, x := range []struct {
		test api.Exp
		e    api.Errno
	}{
		{vari(0), api.OK}, {vari(1), api.ErrType}, {exp(api.ExpSize, 0, vari(1)), api.OK}, {less(vari(0), vari(1)), api.ErrType}, {part(0), api.ErrType},
	} {
		r := rule(vars(0, 1), atom(1, 0, 1))
		r.Tests = exps(whole(1), x.test)
		typeIs(t, inputs, ruled(0, named, r), named, x.e)
	}
}
