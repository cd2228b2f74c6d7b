package calc_test

import (
	"math/rand"
	"slices"
	"strconv"
	"strings"
	"testing"

	"deltaworks/api"
	"deltaworks/calc"
)

// num, str, tup and tag return values.
func num(n int) api.Value          { return api.Value{N: n} }
func str(s string) api.Value       { return api.Value{Kind: api.ValueText, S: s} }
func tup(l ...api.Value) api.Value { return api.Value{Kind: api.ValueTuple, L: l} }

func tag(n int, v api.Value) api.Value {
	return api.Value{Kind: api.ValueTag, N: n, L: []api.Value{v}}
}

// kind returns a type; tuples and sums are those of types.
func kind(k int, l ...api.Type) api.Type { return api.Type{Kind: k, L: l} }
func tuples(l ...api.Type) api.Type      { return kind(api.TypeTuple, l...) }
func sums(l ...api.Type) api.Type        { return kind(api.TypeSum, l...) }

// Types, some of them in others.
var (
	integer = kind(api.TypeInt)
	letters = kind(api.TypeText)
	unit    = kind(api.TypeTuple)
	pair    = tuples(integer, letters)
	either  = sums(integer, letters)
	nested  = tuples(either, pair)
	maybe   = sums(nested, unit, integer)
)

func someTypes() []api.Type {
	return []api.Type{integer, letters, unit, pair, either, nested, maybe}
}

func invalidTypes() []api.Type {
	loop := []api.Type{sums(integer)}
	loop[0].L = loop
	return []api.Type{sums(), kind(4), kind(-1), kind(api.TypeInt, integer), tuples(times(9, integer)...), tuples(integer, sums()), typeTower(7), typeWide(41), loop[0]}
}

// typeTower returns a type of so many types one within the other, typeWide one of so many types.
func typeTower(n int) api.Type {
	t := integer
	for range n - 1 {
		t = tuples(t)
	}
	return t
}

func typeWide(n int) api.Type {
	return parted(n, integer, func(l []api.Type) api.Type { return tuples(l...) })
}

// parted returns something of so many nodes: each is one, or made of at most 8 parts.
func parted[T any](n int, one T, of func(l []T) T) T {
	if n == 1 {
		return one
	}
	var l []T
	for parts := min(n-1, 8); parts > 0; parts-- {
		part := (n - 1) / parts
		l = append(l, parted(part, one, of))
		n -= part
	}
	return of(l)
}

func times[T any](n int, x T) []T { return slices.Repeat([]T{x}, n) }

// exp returns an expression with parts, and those below are each of one operation.
func exp(op, n int, l ...api.Exp) api.Exp { return api.Exp{Op: op, N: n, L: l} }

func vari(n int) api.Exp                      { return exp(api.ExpVar, n) }
func whole(n int) api.Exp                     { return exp(api.ExpInt, n) }
func text(s string) api.Exp                   { return api.Exp{Op: api.ExpText, S: s} }
func list(l ...api.Exp) api.Exp               { return exp(api.ExpTuple, 0, l...) }
func get(n int, e api.Exp) api.Exp            { return exp(api.ExpGet, n, e) }
func caseOf(l ...api.Exp) api.Exp             { return exp(api.ExpCase, 0, l...) }
func let(a, b api.Exp) api.Exp                { return exp(api.ExpLet, 0, a, b) }
func choose(a, b, c api.Exp) api.Exp          { return exp(api.ExpIf, 0, a, b, c) }
func bin(op int, a, b api.Exp) api.Exp        { return exp(api.ExpBin, op, a, b) }
func add(a, b api.Exp) api.Exp                { return bin(api.OpAdd, a, b) }
func size(e api.Exp) api.Exp                  { return exp(api.ExpSize, 0, e) }
func join(a, b api.Exp) api.Exp               { return exp(api.ExpJoin, 0, a, b) }
func cut(a, b, c api.Exp) api.Exp             { return exp(api.ExpCut, 0, a, b, c) }
func call(n int, l ...api.Exp) api.Exp        { return exp(api.ExpCall, n, l...) }
func fun(body api.Exp, l ...api.Type) api.Fun { return api.Fun{Params: l, Body: body} }
func exps(l ...api.Exp) []api.Exp             { return l }

// tagged returns the expression that tags another one, of a sum.
func tagged(sum api.Type, n int, e api.Exp) api.Exp {
	return api.Exp{Op: api.ExpTag, N: n, T: sum.L, L: exps(e)}
}

// deep returns an expression of so many nodes one within the other, around the last of them; wide one of so many nodes.
func deep(n int, last api.Exp) api.Exp {
	for range n - 1 {
		last = add(last, whole(1))
	}
	return last
}

func wide(n int) api.Exp {
	return parted(n, whole(1), func(l []api.Exp) api.Exp { return list(l...) })
}

// numbered returns an expression of so many nodes that is a word.
func numbered(n int) api.Exp {
	switch n {
	case 1:
		return whole(1)
	case 2:
		return size(text("a"))
	}
	return add(numbered((n-1)/2), numbered(n/2))
}

// sameValue, alike and equal compare all fields; an empty list is no list.
func sameValue(a, b api.Value) bool {
	return a.Kind == b.Kind && a.N == b.N && a.S == b.S && slices.EqualFunc(a.L, b.L, sameValue)
}

func alike(a, b api.Type) bool { return a.Kind == b.Kind && slices.EqualFunc(a.L, b.L, alike) }

func equal(a, b api.Exp) bool {
	return a.Op == b.Op && a.N == b.N && a.S == b.S && slices.EqualFunc(a.T, b.T, alike) && slices.EqualFunc(a.L, b.L, equal)
}

// must returns what is returned without an error.
func must[T any](x T, e api.Errno) T {
	if e != api.OK {
		panic("error " + strconv.Itoa(int(e)))
	}
	return x
}

// isType, isValue, isExp and isVars fail unless that is returned, without an error, or nothing, with the error e.
func isType(t *testing.T, got api.Type, err api.Errno, want api.Type, e api.Errno) {
	t.Helper()
	if err != e || !alike(got, want) {
		t.Errorf("%v, %d, not %v, %d", got, err, want, e)
	}
}

func isValue(t *testing.T, got api.Value, err api.Errno, want api.Value, e api.Errno) {
	t.Helper()
	if err != e || !sameValue(got, want) {
		t.Errorf("%v, %d, not %v, %d", got, err, want, e)
	}
}

func isExp(t *testing.T, got api.Exp, err api.Errno, want api.Exp, e api.Errno) {
	t.Helper()
	if err != e || !equal(got, want) {
		t.Errorf("%v, %d, not %v, %d", got, err, want, e)
	}
}

func isVars(t *testing.T, got []int, err api.Errno, want []int, e api.Errno) {
	t.Helper()
	if err != e || !slices.Equal(got, want) {
		t.Errorf("%v, %d, not %v, %d", got, err, want, e)
	}
}

// refusesAll fails unless an expression with variables of some types is refused with an error by TypeOf and Eval, the values of the variables being those that are given.
func refusesAll(t *testing.T, funs []api.Fun, vars []api.Type, values []api.Value, e api.Exp, want api.Errno) {
	t.Helper()
	u, err := calc.TypeOf(funs, vars, e)
	isType(t, u, err, api.Type{}, want)
	v, err := calc.Eval(funs, vars, values, e)
	isValue(t, v, err, api.Value{}, want)
}

// anyValue returns one of few values of a type.
func anyValue(r *rand.Rand, t api.Type) api.Value {
	switch t.Kind {
	case api.TypeInt:
		return num([]int{0, 0, 1, 1, 2, -1, -3, 7, api.WordLow, api.WordHigh}[r.Intn(10)])
	case api.TypeText:
		return str([]string{"", "a", "b\"\\", "aab", strings.Repeat("x", 60)}[r.Intn(5)])
	case api.TypeSum:
		n := r.Intn(len(t.L))
		return tag(n, anyValue(r, t.L[n]))
	}
	v := tup()
	for _, part := range t.L {
		v.L = append(v.L, anyValue(r, part))
	}
	return v
}

func anyValues(r *rand.Rand, types []api.Type) (l []api.Value) {
	for _, t := range types {
		l = append(l, anyValue(r, t))
	}
	return l
}
