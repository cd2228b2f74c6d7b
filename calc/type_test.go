package calc_test

import (
	"math/rand"
	"testing"

	"deltaworks/api"
	"deltaworks/calc"
)

// TestTypes: P5.2: the type of an expression of each operation.
func TestTypes(t *testing.T) {
	vars := []api.Type{integer, letters, unit, pair, either, nested, maybe}
	funs := []api.Fun{fun(whole(1)), fun(list(vari(1), vari(0)), integer, maybe)}
	for i, x := range []struct {
		e    api.Exp
		want api.Type
	}{
		{vari(0), integer}, {vari(1), letters}, {vari(2), unit}, {vari(3), pair}, {vari(4), either}, {vari(5), nested}, {vari(6), maybe},
		{whole(api.WordLow), integer},
		{text(""), letters},
		{list(), unit}, {list(vari(0)), tuples(integer)}, {list(vari(6), vari(1), vari(6)), tuples(maybe, letters, maybe)}, {list(times(8, vari(0))...), tuples(times(8, integer)...)},
		{get(0, vari(3)), integer}, {get(1, vari(3)), letters}, {get(1, get(1, vari(5))), letters}, {get(7, list(vari(0), vari(0), vari(0), vari(0), vari(0), vari(0), vari(0), vari(3))), pair},
		{tagged(maybe, 0, vari(5)), maybe}, {tagged(maybe, 1, vari(2)), maybe}, {tagged(maybe, 2, vari(0)), maybe}, {tagged(sums(pair), 0, vari(3)), sums(pair)},
		{caseOf(vari(4), vari(7), size(vari(7))), integer}, {caseOf(vari(6), get(0, get(1, vari(7))), vari(0), vari(7)), integer}, {caseOf(vari(6), get(0, vari(7)), vari(4), vari(4)), either}, {caseOf(tagged(sums(unit), 0, list()), vari(7)), unit},
		{caseOf(append(exps(tagged(sums(times(8, pair)...), 7, vari(3))), times(8, vari(7))...)...), pair},
		{let(vari(3), vari(7)), pair}, {let(vari(3), vari(6)), maybe}, {let(vari(0), let(vari(1), list(vari(8), vari(7)))), tuples(letters, integer)},
		{choose(vari(0), vari(6), tagged(maybe, 1, list())), maybe},
		{add(vari(0), vari(0)), integer}, {bin(api.OpLess, vari(0), vari(0)), integer}, {bin(api.OpLess, vari(6), vari(6)), integer}, {bin(api.OpSame, vari(1), text("")), integer}, {bin(api.OpSame, vari(2), list()), integer},
		{size(vari(1)), integer}, {join(vari(1), vari(1)), letters}, {cut(vari(1), vari(0), vari(0)), letters},
		{call(0), integer}, {call(1, vari(0), vari(6)), tuples(maybe, integer)},
	} {
		u, err := calc.TypeOf(funs, vars, x.e)
		isType(t, u, err, x.want, api.OK)
		if t.Failed() {
			t.Fatal(i)
		}
	}
}

// TestNotTyped: P5.2: what is needed of the types of the parts, operation by operation.
func TestNotTyped(t *testing.T) {
	vars := []api.Type{integer, letters, unit, pair, either, nested, maybe}
	values := []api.Value{num(1), str("a"), tup(), tup(num(1), str("b")), tag(0, num(1)), tup(tag(0, num(1)), tup(num(1), str("b"))), tag(1, tup())}
	funs := []api.Fun{fun(whole(1)), fun(vari(1), integer, letters), fun(vari(0), maybe)}
	no := add(vari(1), vari(1))
	refused := exps(
		get(2, vari(3)), get(7, vari(3)), get(0, vari(0)), get(0, vari(1)), get(0, vari(2)), get(0, vari(4)), get(0, vari(6)),
		tagged(either, 0, vari(1)), tagged(either, 1, vari(0)), tagged(either, 0, vari(4)), tagged(maybe, 2, vari(2)), tagged(sums(tuples(integer)), 0, vari(0)),
		caseOf(vari(0), vari(0)), caseOf(vari(1), vari(0)), caseOf(vari(2), vari(0)), caseOf(vari(3), vari(0), vari(0)), caseOf(vari(5), vari(0), vari(0)),
		caseOf(vari(4), vari(0)), caseOf(vari(4), vari(0), vari(0), vari(0)), caseOf(vari(6), vari(0), vari(0)),
		caseOf(vari(4), vari(0), vari(1)), caseOf(vari(4), vari(7), vari(7)), caseOf(vari(6), vari(0), vari(0), vari(1)), caseOf(vari(6), vari(0), vari(1), vari(0)), caseOf(vari(6), vari(1), vari(0), vari(0)),
		let(vari(0), size(vari(7))), let(vari(1), add(vari(7), vari(0))), let(no, vari(0)), let(vari(0), no),
		choose(vari(1), vari(0), vari(0)), choose(vari(3), vari(0), vari(0)), choose(vari(0), vari(0), vari(1)), choose(vari(0), vari(3), vari(4)), choose(vari(0), vari(4), tagged(sums(letters, integer), 0, vari(1))),
		add(vari(0), vari(1)), add(vari(1), vari(0)), add(vari(1), vari(1)), add(vari(3), vari(3)), add(vari(4), vari(4)), bin(api.OpXor, vari(2), vari(2)), bin(api.OpMin, vari(1), vari(1)), bin(api.OpMax, vari(1), vari(1)),
		bin(api.OpLess, vari(0), vari(1)), bin(api.OpLess, vari(3), vari(5)), bin(api.OpSame, vari(4), vari(6)), bin(api.OpSame, vari(2), vari(3)), bin(api.OpSame, list(vari(0)), vari(0)), bin(api.OpSame, vari(3), list(vari(1), vari(0))),
		size(vari(0)), size(vari(2)), size(vari(3)), size(tagged(either, 1, vari(1))),
		join(vari(0), vari(1)), join(vari(1), vari(0)), join(vari(3), vari(1)),
		cut(vari(0), vari(0), vari(0)), cut(vari(1), vari(1), vari(0)), cut(vari(1), vari(0), vari(1)), cut(vari(3), vari(0), vari(0)),
		call(1, vari(1), vari(0)), call(1, vari(0), vari(0)), call(1, vari(1), vari(1)), call(2, vari(4)),
	)
	for i, e := range refused {
		refusesAll(t, funs, vars, values, e, api.ErrType)
		// Nor is anything that it is part of. Within, where there is a variable more, those that are bound in it have other numbers.
		within := model{}.put(e, variables(7), 8)
		for _, around := range exps(list(e), list(vari(0), e), let(e, vari(0)), let(vari(0), within), tagged(either, 0, e), choose(vari(0), vari(0), e), choose(whole(1), vari(0), e), bin(api.OpSame, e, e), get(0, list(vari(0), e)), caseOf(vari(4), vari(0), within), call(2, e)) {
			refusesAll(t, funs, vars, values, around, api.ErrType)
		}
		if t.Failed() {
			t.Fatal(i)
		}
	}
}

// TestTypesOfNodes: P5.2: the type of each node is valid.
func TestTypesOfNodes(t *testing.T) {
	vars := []api.Type{typeTower(6), typeTower(5), typeWide(40), typeWide(20), typeWide(19)}
	for i, x := range []struct {
		e    api.Exp
		want api.Type
	}{
		{vari(0), typeTower(6)}, {vari(2), typeWide(40)},
		{list(vari(1)), typeTower(6)}, {list(vari(1), vari(1)), tuples(typeTower(5), typeTower(5))},
		{list(vari(3), vari(4)), tuples(typeWide(20), typeWide(19))},
		{get(0, list(vari(3), vari(4))), typeWide(20)},
		{tagged(sums(typeTower(5), typeWide(34)), 0, vari(1)), sums(typeTower(5), typeWide(34))},
		{tagged(sums(typeWide(20), typeWide(19)), 1, vari(4)), sums(typeWide(20), typeWide(19))},
	} {
		u, err := calc.TypeOf(nil, vars, x.e)
		isType(t, u, err, x.want, api.OK)
		u, err = calc.TypeOf(nil, vars, let(x.e, vari(5)))
		isType(t, u, err, x.want, api.OK)
		if t.Failed() {
			t.Fatal(i)
		}
	}
	values := anyValues(rand.New(rand.NewSource(5)), vars)
	for i, e := range exps(
		list(vari(0)), list(vari(1), vari(0)), list(list(vari(1))), list(vari(2)), list(vari(3), vari(3)), list(vari(4), vari(3), list()),
		tagged(sums(typeTower(6)), 0, vari(0)), tagged(sums(typeTower(5), typeTower(6)), 0, vari(1)), tagged(sums(typeTower(5), typeWide(35)), 0, vari(1)), tagged(sums(typeWide(40)), 0, vari(2)),
	) {
		refusesAll(t, nil, vars, values, e, api.ErrType)
		// It is no matter that nothing is made of it.
		refusesAll(t, nil, vars, values, get(0, list(vari(1), e)), api.ErrType)
		refusesAll(t, nil, vars, values, let(e, whole(1)), api.ErrType)
		refusesAll(t, nil, vars, values, choose(whole(0), let(e, whole(1)), whole(1)), api.ErrType)
		if t.Failed() {
			t.Fatal(i)
		}
	}
}

// TestTypesOfVariables: P5.2: the types of variables are valid ones, whether they are read or not.
func TestTypesOfVariables(t *testing.T) {
	for _, u := range invalidTypes() {
		for i := range 3 {
			vars := []api.Type{integer, pair, letters}
			vars[i] = u
			refusesAll(t, nil, vars, []api.Value{num(1), tup(num(1), str("")), str("")}, whole(1), api.ErrArg)
			refusesAll(t, nil, vars, nil, vari(i), api.ErrArg)
		}
	}
}
