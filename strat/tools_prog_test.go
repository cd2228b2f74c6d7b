package strat_test

import (
	"fmt"
	"testing"

	"deltaworks/api"
	"deltaworks/query"
	"deltaworks/strat"
)

// num, str, tup and tag return values, words the tuple of words.
func num(n int) api.Value          { return api.Value{N: n} }
func str(s string) api.Value       { return api.Value{Kind: api.ValueText, S: s} }
func tup(l ...api.Value) api.Value { return api.Value{Kind: api.ValueTuple, L: l} }

func tag(n int, v api.Value) api.Value {
	return api.Value{Kind: api.ValueTag, N: n, L: []api.Value{v}}
}

func words(l ...int) api.Value {
	v := tup()
	for _, n := range l {
		v.L = append(v.L, num(n))
	}
	return v
}

// Types, some of them in others.
var (
	integer = api.Type{Kind: api.TypeInt}
	letters = api.Type{Kind: api.TypeText}
	pair    = tuples(integer, integer)
	single  = tuples(integer)
	named   = tuples(integer, letters)
	either  = api.Type{Kind: api.TypeSum, L: types(integer, pair)}
	mixed   = tuples(either, pair, letters)
)

func tuples(l ...api.Type) api.Type  { return api.Type{Kind: api.TypeTuple, L: l} }
func types(l ...api.Type) []api.Type { return l }

// exp returns an expression with parts; vari, whole, same and tagged each one of one operation.
func exp(op, n int, l ...api.Exp) api.Exp { return api.Exp{Op: op, N: n, L: l} }
func vari(n int) api.Exp                  { return exp(api.ExpVar, n) }
func whole(n int) api.Exp                 { return exp(api.ExpInt, n) }
func same(a, b api.Exp) api.Exp           { return exp(api.ExpBin, api.OpSame, a, b) }

func tagged(n int, e api.Exp, l ...api.Type) api.Exp {
	return api.Exp{Op: api.ExpTag, N: n, T: l, L: []api.Exp{e}}
}

// vars returns terms that are variables, is one that is a value.
func vars(l ...int) (out []api.Term) {
	for _, n := range l {
		out = append(out, api.Term{Var: n})
	}
	return out
}

func is(v api.Value) api.Term { return api.Term{Var: -1, Value: v} }

func terms(l ...api.Term) []api.Term { return l }

// atom and not are atoms of variables.
func atom(rel int, l ...int) api.Atom { return api.Atom{Rel: rel, Args: vars(l...)} }
func not(rel int, l ...int) api.Atom  { return api.Atom{Rel: rel, Not: true, Args: vars(l...)} }

func rule(head []api.Term, body ...api.Atom) api.Rule { return api.Rule{Head: head, Body: body} }

// rules are loose rules of a relation.
func rules(rel int, l ...api.Rule) (out []api.StratRule) {
	for _, r := range l {
		out = append(out, api.StratRule{Head: rel, Rule: r})
	}
	return out
}

// view returns a view of a block.
func view(n int, t api.Type, l ...api.Rule) api.View {
	return api.View{Op: api.ViewRules, N: n, T: t, Rules: l}
}

// given is what Prog is called with.
type given struct {
	Inputs, Others []api.Type
	Rules          []api.StratRule
}

// prog is what Prog returns.
type prog struct {
	P      api.Prog
	Places []int
	E      api.Errno
}

func (x given) prog() (y prog) {
	y.P, y.Places, y.E = strat.Prog(x.Inputs, x.Others, x.Rules)
	return y
}

// makes fails unless that is what Prog returns. An empty list is no list.
func (x given) makes(t *testing.T, want prog) {
	t.Helper()
	if got := x.prog(); fmt.Sprint(got) != fmt.Sprint(want) {
		t.Fatalf("%v\n%v, not\n%v", x, got, want)
	}
}

// want returns what Prog returns, as the chapter has it.
func (x given) want() prog {
	rels := len(x.Inputs) + len(x.Others)
	if e := x.refused(rels); e != api.OK {
		return prog{E: e}
	}
	m := modelOf(rels, x.Rules)
	y := prog{P: api.Prog{Inputs: x.Inputs}, Places: make([]int, rels)}
	blocks := m.blocks()
	place := 0
	for _, block := range blocks {
		for _, a := range block {
			y.Places[a] = place
			place++
		}
	}
	n := 0
	for _, block := range blocks {
		for _, a := range block {
			if a >= len(x.Inputs) {
				y.P.Views = append(y.P.Views, view(n, x.Others[a-len(x.Inputs)], x.rulesOf(a, y.Places)...))
			}
		}
		if block[0] >= len(x.Inputs) {
			n++
		}
	}
	if e := query.Check(y.P); e != api.OK {
		return prog{E: e}
	}
	return y
}

// refused returns the error ahead of that of query.Check.
func (x given) refused(rels int) api.Errno {
	if rels < 1 || rels > 48 {
		return api.ErrArg
	}
	if len(x.Rules) > 60 {
		return api.ErrLong
	}
	many := make([]int, rels)
	for _, r := range x.Rules {
		if len(r.Rule.Body) > 6 {
			return api.ErrLong
		}
		named := []int{r.Head}
		for _, a := range r.Rule.Body {
			named = append(named, a.Rel)
		}
		for _, a := range named {
			if a < 0 || a >= rels {
				return api.ErrRange
			}
		}
		many[r.Head]++
	}
	for a := range x.Inputs {
		if many[a] > 0 {
			return api.ErrRange
		}
	}
	if !modelOf(rels, x.Rules).isInOrder() {
		return api.ErrClash
	}
	for _, n := range many {
		if n > 8 {
			return api.ErrLong
		}
	}
	if len(x.Inputs) > 8 || len(x.Others) > 40 {
		return api.ErrLong
	}
	return api.OK
}

// rulesOf returns the rules of a relation, with all relations in their places.
func (x given) rulesOf(rel int, places []int) (l []api.Rule) {
	for _, r := range x.Rules {
		if r.Head == rel {
			made := api.Rule{Head: r.Rule.Head, Tests: r.Rule.Tests}
			for _, a := range r.Rule.Body {
				made.Body = append(made.Body, api.Atom{Rel: places[a.Rel], Not: a.Not, Args: a.Args})
			}
			l = append(l, made)
		}
	}
	return l
}
