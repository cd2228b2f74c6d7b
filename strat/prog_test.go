package strat_test

import (
	"slices"
	"testing"

	"deltaworks/api"
	"deltaworks/query"
)

// sample is of two inputs, of pairs and of words, and of four other relations: 4 denies 5, which 3 and 5 are made of; and 2 denies 4.
func sample() given {
	big := rule(vars(0), atom(1, 0))
	big.Tests = []api.Exp{same(vari(0), whole(7))}
	return given{
		Inputs: types(pair, single),
		Others: types(named, pair, single, pair),
		Rules: slices.Concat(
			rules(2, rule(terms(vars(0)[0], is(str("no"))), atom(1, 0), not(4, 0)), rule(terms(is(num(3)), is(str("yes"))))),
			rules(5, rule(vars(1, 0), atom(3, 0, 1)), rule(vars(0, 1), atom(0, 0, 1))),
			rules(4, big, rule(vars(1), atom(0, 1, 0), not(5, 0, 1))),
			rules(3, rule(vars(0, 2), atom(5, 0, 1), atom(3, 1, 2), atom(0, 1, 1))),
			rules(5, rule(vars(0, 0), atom(1, 0))),
		),
	}
}

// TestProg: P8.5: inputs, views in the order of blocks, the rules of each one in their order, and places.
func TestProg(t *testing.T) {
	big := rule(vars(0), atom(1, 0))
	big.Tests = []api.Exp{same(vari(0), whole(7))}
	want := prog{
		P: api.Prog{
			Inputs: types(pair, single),
			Views: []api.View{
				view(0, pair, rule(vars(0, 2), atom(3, 0, 1), atom(2, 1, 2), atom(0, 1, 1))),
				view(0, pair, rule(vars(1, 0), atom(2, 0, 1)), rule(vars(0, 1), atom(0, 0, 1)), rule(vars(0, 0), atom(1, 0))),
				view(1, single, big, rule(vars(1), atom(0, 1, 0), not(3, 0, 1))),
				view(2, named, rule(terms(vars(0)[0], is(str("no"))), atom(1, 0), not(4, 0)), rule(terms(is(num(3)), is(str("yes"))))),
			},
		},
		Places: []int{0, 1, 5, 2, 4, 3},
	}
	sample().makes(t, want)
	sample().makes(t, sample().want())
	ins := []api.Zset{{{Row: words(1, 2), N: 1}, {Row: words(2, 2), N: 1}}, {{Row: words(7), N: 1}}}
	rels, e := query.Eval(sample().prog().P, ins)
	if e != api.OK || len(rels[4]) != 2 || rels[4][1].Row.L[0].N != 7 || len(rels[5]) != 1 || rels[5][0].Row.L[1].S != "yes" {
		t.Error(rels, e)
	}
}

// TestPlainProgs: P8.5: programs without rules, and others of which each relation is a block.
func TestPlainProgs(t *testing.T) {
	one := func(rel int) []api.StratRule { return rules(rel, rule(vars(0, 1), atom(rel-1, 0, 1))) }
	for _, x := range []struct {
		given
		want prog
	}{
		{given{Inputs: types(integer)}, prog{P: api.Prog{Inputs: types(integer)}, Places: []int{0}}},
		{given{types(pair, letters), types(pair, single, pair), nil}, prog{P: api.Prog{Inputs: types(pair, letters), Views: []api.View{view(0, pair), view(1, single), view(2, pair)}}, Places: ints(0, 5)}},
		{given{types(pair), types(pair, pair), slices.Concat(one(2), one(1))}, prog{
			P:      api.Prog{Inputs: types(pair), Views: []api.View{view(0, pair, one(1)[0].Rule), view(1, pair, one(2)[0].Rule)}},
			Places: ints(0, 3),
		}},
		{given{types(pair), types(tuples(), tuples()), rules(1, rule(nil, api.Atom{Rel: 2, Not: true}))}, prog{
			P:      api.Prog{Inputs: types(pair), Views: []api.View{view(0, tuples()), view(1, tuples(), rule(nil, api.Atom{Rel: 1, Not: true}))}},
			Places: []int{0, 2, 1},
		}},
	} {
		x.makes(t, x.want)
		x.makes(t, x.given.want())
	}
}

// fault makes something of what Prog is given that it refuses with an error; those ahead of it come first.
type fault struct {
	of func(x *given)
	e  api.Errno
}

// put returns what puts rules behind the others, or, with first, ahead of them.
func put(first bool, l ...api.StratRule) func(x *given) {
	return func(x *given) {
		if first {
			x.Rules = slices.Concat(l, x.Rules)
			return
		}
		x.Rules = slices.Concat(x.Rules, l)
	}
}

// faults are one of each error that Prog returns, in the order of the chapter, with rules ahead of the others or behind them.
func faults(first bool) []fault {
	plain := rule(vars(0, 0), atom(1, 0))
	return []fault{
		{func(x *given) { x.Others = append(x.Others, times(49, pair)...) }, api.ErrArg},
		{put(first, slices.Concat(rules(3, times(8, plain)...), rules(5, times(8, plain)...), times(37, rules(4, plain)[0]))...), api.ErrLong},
		{put(first, loose("4: 0 0 0 0 0 0 0")...), api.ErrLong},
		{put(first, rules(0, rule(vars(0, 0), atom(1, 0)))...), api.ErrRange},
		{put(first, rules(5, rule(vars(0, 0), atom(1, 0), not(3, 0, 0)))...), api.ErrClash},
		{func(x *given) { x.Others = append(x.Others, times(37, pair)...) }, api.ErrLong},
		{put(first, rules(2, times(7, plain)...)...), api.ErrLong},
		{put(first, rules(2, rule(vars(0, 1), atom(1, 0)))...), api.ErrArg},
		{put(first, rules(2, rule(vars(0, 0), atom(0, 0, 0)))...), api.ErrType},
	}
}

// TestProgRefused: P8.5: of two errors the one that is named first is returned, wherever they are, and nothing else.
func TestProgRefused(t *testing.T) {
	isError := func(name []int, x given, e api.Errno) {
		t.Helper()
		x.makes(t, prog{E: e})
		if got := x.want(); got.E != e {
			t.Fatal(name, got)
		}
	}
	for _, first := range []bool{false, true} {
		for i, a := range faults(first) {
			x := sample()
			a.of(&x)
			isError([]int{i}, x, a.e)
			for k, b := range faults(!first)[i+1:] {
				x := sample()
				a.of(&x)
				b.of(&x)
				isError([]int{i, i + 1 + k}, x, a.e)
				x = sample()
				b.of(&x)
				a.of(&x)
				isError([]int{i, i + 1 + k}, x, a.e)
			}
		}
	}
}

// TestProgErrors: P8.5: errors of single things.
func TestProgErrors(t *testing.T) {
	x := sample()
	for _, y := range []struct {
		given
		e api.Errno
	}{
		{given{}, api.ErrArg},
		{given{Rules: x.Rules}, api.ErrArg},
		{given{times(48, pair), types(pair), nil}, api.ErrArg},
		{given{times(48, pair), nil, times(61, x.Rules[0])}, api.ErrLong},
		{given{x.Inputs, x.Others, loose("6:")}, api.ErrRange},
		{given{x.Inputs, x.Others, loose("-1:")}, api.ErrRange},
		{given{x.Inputs, x.Others, loose("2: !6")}, api.ErrRange},
		{given{x.Inputs, x.Others, loose("2: -1")}, api.ErrRange},
		{given{x.Inputs, x.Others, loose("1:")}, api.ErrRange},
		{given{x.Inputs, x.Others, slices.Concat(loose("1:"), tooLong())}, api.ErrLong},
		{given{x.Inputs, x.Others, loose("1: !1")}, api.ErrRange},
		{given{x.Inputs, x.Others, loose(rulesS)}, api.ErrRange},
		{given{x.Inputs[:1], x.Others, loose(rulesS)}, api.ErrClash},
		{given{times(9, pair), nil, nil}, api.ErrLong},
		{given{times(9, pair), times(39, pair), nil}, api.ErrLong},
		{given{times(7, pair), times(41, pair), nil}, api.ErrLong},
		{given{nil, times(48, pair), nil}, api.ErrLong},
		// As query.Check says.
		{given{nil, types(pair), nil}, api.ErrArg},
		{given{nil, types(pair), loose("0: !0")}, api.ErrClash},
		{given{types(tuples(times(9, integer)...)), nil, nil}, api.ErrArg},
		{given{types(pair), types(integer), nil}, api.ErrArg},
		{given{types(pair), types(tuples(times(9, integer)...)), nil}, api.ErrArg},
		{given{types(pair), types(pair), rules(1, rule(vars(0)))}, api.ErrArg},
		{given{types(pair), types(pair), rules(1, rule(vars(0, 1), not(0, 0, 1)))}, api.ErrArg},
		{given{types(pair), types(pair), rules(1, api.Rule{Head: vars(0, 1), Body: []api.Atom{atom(0, 0, 1)}, Tests: times(5, vari(0))})}, api.ErrArg},
		{given{types(pair), types(pair), rules(1, api.Rule{Head: vars(0, 1), Body: []api.Atom{atom(0, 0, 1)}, Tests: []api.Exp{exp(api.ExpCall, 0)}})}, api.ErrArg},
		{given{types(pair), types(pair), rules(1, rule(terms(is(str("a")), is(num(1)))))}, api.ErrType},
		{given{types(integer), types(pair), rules(1, rule(vars(0, 0), atom(0, 0)))}, api.ErrType},
		{given{types(pair), types(pair), rules(1, rule(vars(0, 1), atom(0, 0, 1, 2)))}, api.ErrType},
	} {
		y.makes(t, prog{E: y.e})
		y.makes(t, y.want())
	}
}

// TestProgMost: P8.5: as many inputs, others, and rules of a relation as there can be.
func TestProgMost(t *testing.T) {
	x := given{times(8, single), times(40, pair), nil}
	x.makes(t, x.want())
	for rel := 8; rel < 47; rel++ {
		x.Rules = append(x.Rules, rules(rel, rule(vars(0, 0), atom(0, 0), atom(1, 0), atom(2, 0), atom(3, 0), not(rel+1, 0, 0), atom(7, 0)))...)
	}
	x.Rules = append(x.Rules, rules(30, times(7, rule(vars(0, 0), atom(7, 0)))...)...)
	y := x.prog()
	if y.E != api.OK || y.Places[8] != 47 || y.Places[47] != 8 || len(y.P.Views[17].Rules) != 8 {
		t.Fatal(y)
	}
	x.makes(t, x.want())
}
