package strat_test

import (
	"fmt"
	"testing"

	"deltaworks/api"
)

// selfValue, selfType and selfExp hold themselves.
func selfValue() api.Value {
	l := []api.Value{{Kind: api.ValueTuple}}
	l[0].L = l
	return l[0]
}

func selfType() api.Type {
	l := []api.Type{{Kind: api.TypeTuple}}
	l[0].L = l
	return l[0]
}

func selfExp() api.Exp {
	l := []api.Exp{{Op: api.ExpTuple}}
	l[0].L = l
	return l[0]
}

// tests are expressions, each an operation more than the others: with so many variables, of which the first one is mixed, and the next ones words and texts.
func tests() []api.Exp {
	size := exp(api.ExpSize, 0, exp(api.ExpCut, 0, exp(api.ExpJoin, 0, exp(api.ExpText, 0), vari(2)), whole(1), vari(1)))
	some := exp(api.ExpIf, 0, vari(1), exp(api.ExpLet, 0, vari(1), same(vari(3), whole(0))), size)
	some.L[2].L[0].L[0].L[0].S = "text"
	cases := exp(api.ExpCase, 0, vari(0), same(vari(3), vari(1)), exp(api.ExpGet, 1, vari(3)))
	sums := same(vari(0), tagged(1, exp(api.ExpTuple, 0, whole(1), whole(-2)), either.L...))
	return []api.Exp{some, cases, sums}
}

// littered returns an expression with something in all fields that its operation does not name.
func littered(e api.Exp) api.Exp {
	var parts []api.Exp
	for _, part := range e.L {
		parts = append(parts, littered(part))
	}
	e.L = parts
	if e.Op != api.ExpText {
		e.S = "\n"
	}
	if e.Op != api.ExpTag {
		e.T = []api.Type{selfType()}
	}
	switch e.Op {
	case api.ExpVar, api.ExpInt, api.ExpGet, api.ExpTag, api.ExpBin:
	default:
		e.N = -77
	}
	return e
}

// TestUnnamed: what a term or an expression does not name is not looked at (R8), and is not there in the program (rule 7a of LANGUAGE.md), even if it holds itself.
func TestUnnamed(t *testing.T) {
	body := []api.Atom{atom(0, 0, 1, 2), {Rel: 1, Not: true, Args: terms(is(num(5)), vars(2)[0])}}
	plain := rule(vars(0, 1), body...)
	plain.Tests = tests()
	other := rule(nil)
	for _, v := range plain.Head {
		other.Head = append(other.Head, api.Term{Var: v.Var, Value: selfValue()})
	}
	for _, a := range body {
		made := api.Atom{Rel: a.Rel, Not: a.Not}
		for _, v := range a.Args {
			if v.Var >= 0 {
				v.Value = selfValue()
			}
			made.Args = append(made.Args, v)
		}
		other.Body = append(other.Body, made)
	}
	for _, e := range tests() {
		other.Tests = append(other.Tests, littered(e))
	}
	x := given{Inputs: types(tuples(either, integer, letters), named), Others: types(tuples(either, integer))}
	x.Rules = rules(2, plain)
	want := x.want()
	x.makes(t, want)
	x.Rules = rules(2, other)
	got := x.prog()
	if want.E != api.OK || fmt.Sprint(got) != fmt.Sprint(want) {
		t.Fatalf("%v, not %v", got, want)
	}
}

// TestHoldsItself: P1: what holds itself, where it is looked at, is ErrArg.
func TestHoldsItself(t *testing.T) {
	test := func(e api.Exp) []api.StratRule {
		r := rule(vars(0, 0), atom(0, 0, 0))
		r.Tests = []api.Exp{e}
		return rules(1, r)
	}
	value := is(selfValue())
	for i, x := range []given{
		{types(selfType()), nil, nil},
		{types(tuples(selfType())), types(pair), nil},
		{types(pair), types(selfType()), nil},
		{types(pair), types(pair), rules(1, rule(terms(value, is(num(0)))))},
		{types(pair), types(pair), rules(1, rule(vars(0, 0), atom(0, 0, 0), api.Atom{Rel: 0, Args: terms(value, value)}))},
		{types(pair), types(pair), rules(1, rule(vars(0, 0), atom(0, 0, 0), api.Atom{Rel: 0, Not: true, Args: terms(value, value)}))},
		{types(pair), types(pair), test(selfExp())},
		{types(pair), types(pair), test(same(vari(0), exp(api.ExpLet, 0, selfExp(), vari(0))))},
		{types(pair), types(pair), test(exp(api.ExpCase, 0, tagged(0, vari(0), selfType()), whole(1)))},
	} {
		if y := x.prog(); y.E != api.ErrArg || len(y.P.Inputs)+len(y.P.Views)+len(y.Places) > 0 {
			t.Error(i, y.E)
		}
	}
}
