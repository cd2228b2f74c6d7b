package query_test

import (
	"slices"
	"strconv"
	"testing"

	"deltaworks/api"
	"deltaworks/query"
	"deltaworks/value"
)

// num, str, tup and tag return values, words the tuple of words.
func num(n int) api.Value          { return api.Value{N: n} }
func str(s string) api.Value       { return api.Value{Kind: api.ValueText, S: s} }
func tup(l ...api.Value) api.Value { return api.Value{Kind: api.ValueTuple, L: l} }

func tag(n int, v api.Value) api.Value {
	return api.Value{Kind: api.ValueTag, N: n, L: []api.Value{v}}
}

func words(l ...int) (v api.Value) {
	v.Kind = api.ValueTuple
	for _, n := range l {
		v.L = append(v.L, num(n))
	}
	return v
}

// kind returns a type; tuples and sums are those of types.
func kind(k int, l ...api.Type) api.Type { return api.Type{Kind: k, L: l} }
func tuples(l ...api.Type) api.Type      { return kind(api.TypeTuple, l...) }
func sums(l ...api.Type) api.Type        { return kind(api.TypeSum, l...) }

// Types, some of them in others.
var (
	integer = kind(api.TypeInt)
	letters = kind(api.TypeText)
	unit    = tuples()
	single  = tuples(integer)
	pair    = tuples(integer, integer)
	named   = tuples(integer, letters)
	either  = sums(integer, letters)
	mixed   = tuples(either, integer)
)

// tower returns a type of so many types one within the other.
func tower(n int) api.Type {
	t := integer
	for range n - 1 {
		t = tuples(t)
	}
	return t
}

func times[T any](n int, x T) []T { return slices.Repeat([]T{x}, n) }

// exp returns an expression with parts, and those below are each of one operation.
func exp(op, n int, l ...api.Exp) api.Exp { return api.Exp{Op: op, N: n, L: l} }

func vari(n int) api.Exp               { return exp(api.ExpVar, n) }
func whole(n int) api.Exp              { return exp(api.ExpInt, n) }
func text(s string) api.Exp            { return api.Exp{Op: api.ExpText, S: s} }
func list(l ...api.Exp) api.Exp        { return exp(api.ExpTuple, 0, l...) }
func get(n int, e api.Exp) api.Exp     { return exp(api.ExpGet, n, e) }
func part(n int) api.Exp               { return get(n, vari(0)) }
func bin(op int, a, b api.Exp) api.Exp { return exp(api.ExpBin, op, a, b) }
func less(a, b api.Exp) api.Exp        { return bin(api.OpLess, a, b) }
func exps(l ...api.Exp) []api.Exp      { return l }

// vars returns terms; is is one that is a value; atom and not are atoms of variables.
func vars(l ...int) (terms []api.Term) {
	for _, n := range l {
		terms = append(terms, api.Term{Var: n})
	}
	return terms
}

func is(v api.Value) api.Term { return api.Term{Var: -1, Value: v} }

func terms(l ...api.Term) []api.Term { return l }

func atom(rel int, l ...int) api.Atom { return api.Atom{Rel: rel, Args: vars(l...)} }

func not(rel int, l ...int) api.Atom { return api.Atom{Rel: rel, Not: true, Args: vars(l...)} }

func rule(head []api.Term, body ...api.Atom) api.Rule { return api.Rule{Head: head, Body: body} }

// made returns a view of an operation, made of relations by expressions; ruled a view of rules, of the block n.
func made(op int, from []int, f ...api.Exp) api.View { return api.View{Op: op, From: from, F: f} }

func fold(n int, from int, f ...api.Exp) api.View {
	return api.View{Op: api.ViewFold, N: n, From: []int{from}, F: f}
}

func ruled(n int, t api.Type, l ...api.Rule) api.View {
	return api.View{Op: api.ViewRules, N: n, T: t, Rules: l}
}

// sample returns the program P of the chapter.
func sample() api.Prog {
	reached := ruled(0, pair, rule(vars(0, 1), atom(0, 0, 1)), rule(vars(0, 2), atom(2, 0, 1), atom(0, 1, 2)))
	back := rule(vars(1, 0), atom(2, 0, 1), not(1, 0, 1))
	back.Tests = exps(less(vari(0), vari(1)))
	return api.Prog{
		Inputs: []api.Type{pair, pair},
		Views:  []api.View{reached, ruled(0, pair, back), fold(api.FoldCount, 2, part(0)), made(api.ViewNeg, []int{0})},
		Outs:   []int{2, 3, 4},
	}
}

// program returns a program whose inputs have these types, with these views.
func program(inputs []api.Type, views ...api.View) api.Prog {
	return api.Prog{Inputs: inputs, Views: views}
}

// pairs returns a program of two inputs of pairs of words, with these views.
func pairs(views ...api.View) api.Prog { return program([]api.Type{pair, pair}, views...) }

// row returns an item, zset the collection of items that are in order, each those of rows of words, each once.
func row(v api.Value, n int) api.Item { return api.Item{Row: v, N: n} }

func zset(l ...api.Item) api.Zset { return l }

func each(l ...[]int) (z api.Zset) {
	for _, r := range l {
		z = append(z, row(words(r...), 1))
	}
	return z
}

// two returns a collection of pairs of words, each with its count.
func two(l ...[3]int) (z api.Zset) {
	for _, x := range l {
		z = append(z, row(words(x[0], x[1]), x[2]))
	}
	return z
}

// many returns a collection of so many pairs of words, from one on.
func many(from, n int) (z api.Zset) {
	for i := range n {
		z = append(z, row(words(from+i, 0), 1))
	}
	return z
}

func ins(l ...api.Zset) []api.Zset { return l }

// sameValue, sameType, sameZset and sameAll compare all fields; an empty list is no list.
func sameValue(a, b api.Value) bool {
	return a.Kind == b.Kind && a.N == b.N && a.S == b.S && slices.EqualFunc(a.L, b.L, sameValue)
}

func sameType(a, b api.Type) bool { return a.Kind == b.Kind && slices.EqualFunc(a.L, b.L, sameType) }

func sameZset(a, b api.Zset) bool {
	return slices.EqualFunc(a, b, func(x, y api.Item) bool { return x.N == y.N && sameValue(x.Row, y.Row) })
}

func sameAll(a, b []api.Zset) bool { return slices.EqualFunc(a, b, sameZset) }

// must returns what is returned without an error.
func must[T any](x T, e api.Errno) T {
	if e != api.OK {
		panic("error " + strconv.Itoa(int(e)))
	}
	return x
}

// areTypes, areRels and isLast fail unless that is returned, without an error, or nothing, with the error e; isLast looks at the last relation alone.
func areTypes(t *testing.T, got []api.Type, err api.Errno, want []api.Type, e api.Errno) {
	t.Helper()
	if err != e || !slices.EqualFunc(got, want, sameType) {
		t.Errorf("%v, %d, not %v, %d", got, err, want, e)
	}
}

func areRels(t *testing.T, got []api.Zset, err api.Errno, want []api.Zset, e api.Errno) {
	t.Helper()
	if err != e || !sameAll(got, want) {
		t.Errorf("%s, %d, not %s, %d", told(got), err, told(want), e)
	}
}

// isLast fails unless the last relation of a program is a collection, or, with an error, there is none.
func isLast(t *testing.T, p api.Prog, l []api.Zset, want api.Zset, e api.Errno) {
	t.Helper()
	got, err := query.Eval(p, l)
	if e == api.OK && err == e && len(got) == len(p.Inputs)+len(p.Views) {
		got = got[len(got)-1:]
		areRels(t, got, err, ins(want), e)
		return
	}
	areRels(t, got, err, nil, e)
	if e == api.OK {
		t.Error("no such relation")
	}
}

// told returns collections as a text.
func told(l []api.Zset) (s string) {
	for _, z := range l {
		s += "{ "
		for _, x := range z {
			row, _ := value.Text(x.Row)
			s += row + ": " + strconv.Itoa(x.N) + " "
		}
		s += "} "
	}
	return s
}
