package calc_test

import (
	"slices"
	"strings"
	"testing"

	"deltaworks/api"
	"deltaworks/calc"
)

// variables returns the first variables, so many of them.
func variables(n int) (l []api.Exp) {
	for i := range n {
		l = append(l, vari(i))
	}
	return l
}

// formedOrNot fails unless an expression, with so many variables, is taken for one that is formed, or for one that is not, wherever it is given.
func formedOrNot(t *testing.T, funs []api.Fun, vars int, e api.Exp, formed bool) {
	t.Helper()
	types := times(vars, integer)
	values := times(vars, num(1))
	_, byType := calc.TypeOf(funs, types, e)
	_, byEval := calc.Eval(funs, types, values, e)
	_, byResults := calc.Results(append(slices.Clone(funs), fun(e, types...)))
	byCheck := calc.Check(append(slices.Clone(funs), fun(e, types...)))
	for i, err := range []api.Errno{byType, byEval, byResults, byCheck} {
		if (err == api.ErrArg) == formed {
			t.Errorf("%d: error %d of %v", i, err, e)
		}
	}
	freeOrNot(t, vars, e, formed)
}

// freeOrNot is as formedOrNot, where any function may be called.
func freeOrNot(t *testing.T, vars int, e api.Exp, formed bool) {
	t.Helper()
	_, byUses := calc.Uses(e, vars)
	_, byPut := calc.Put(e, variables(vars), vars)
	_, byOther := calc.Put(vari(0), exps(e), vars)
	_, byUnused := calc.Put(whole(1), exps(whole(1), e), vars)
	for i, err := range []api.Errno{byUses, byPut, byOther, byUnused} {
		if formed && err != api.OK || !formed && err != api.ErrArg {
			t.Errorf("%d: error %d of %v", i, err, e)
		}
	}
}

// TestParts: each operation has as many parts as the table says; there are no other operations.
func TestParts(t *testing.T) {
	for op := -2; op < 17; op++ {
		least, most := model{}.parts(op)
		for n := range 12 {
			e := exp(op, 0, times(n, whole(1))...)
			e.T = []api.Type{integer}
			callee := fun(whole(1), times(min(n, 8), integer)...)
			formedOrNot(t, []api.Fun{callee}, 1, e, n >= least && n <= most)
			formedOrNot(t, []api.Fun{callee}, 1, list(whole(1), e), n >= least && n <= most)
		}
	}
	for _, op := range []int{14, 1 << 40, -1 << 63, 1<<63 - 1} {
		formedOrNot(t, nil, 1, exp(op, 0), false)
	}
}

// TestNumbers: what is needed of N.
func TestNumbers(t *testing.T) {
	funs := times(3, fun(whole(1)))
	for _, x := range []struct {
		e          api.Exp
		low, high  int
		vars       int
		everywhere bool // calls of functions that there are not are formed in Uses and in Put
	}{
		{exp(api.ExpVar, 0), 0, 2, 3, true},
		{exp(api.ExpVar, 0), 0, -1, 0, true},
		{exp(api.ExpInt, 0), api.WordLow, api.WordHigh, 3, true},
		{get(0, whole(1)), 0, 7, 3, true},
		{tagged(sums(times(3, integer)...), 0, whole(1)), 0, 2, 3, true},
		{tagged(sums(times(8, integer)...), 0, whole(1)), 0, 7, 3, true},
		{bin(0, whole(1), whole(1)), 0, 11, 3, true},
		{call(0), 0, 2, 3, false},
	} {
		for _, n := range []int{-1 << 63, api.WordLow - 1, api.WordLow, -2, -1, 0, 1, 2, 3, 4, 6, 7, 8, 9, 10, 11, 12, 13, 19, 20, 40, api.WordHigh, api.WordHigh + 1, 1 << 32, 1<<63 - 1} {
			e := x.e
			e.N = n
			if x.everywhere {
				formedOrNot(t, funs, x.vars, e, n >= x.low && n <= x.high)
				continue
			}
			freeOrNot(t, x.vars, e, n >= 0 && n <= 19)
			if _, err := calc.TypeOf(funs, nil, e); (err == api.OK) != (n >= x.low && n <= x.high) {
				t.Errorf("%d of %v", err, e)
			}
		}
	}
}

// TestTexts: what is needed of S.
func TestTexts(t *testing.T) {
	for _, s := range []string{"", " ", "~", "a\"\\", strings.Repeat("~", 100)} {
		formedOrNot(t, nil, 1, text(s), true)
	}
	for _, s := range []string{"\n", "\x1f", "\x7f", "a\x00", "ab\xc3\xa4", strings.Repeat("~", 101)} {
		formedOrNot(t, nil, 1, text(s), false)
	}
}

// TestTypesOfTags: what is needed of T.
func TestTypesOfTags(t *testing.T) {
	some := someTypes()
	for n := range 11 {
		e := api.Exp{Op: api.ExpTag, T: times(n, integer), L: exps(whole(1))}
		formedOrNot(t, nil, 1, e, n >= 1 && n <= 8)
	}
	for _, u := range invalidTypes() {
		for i := range some {
			l := slices.Clone(some)
			l[i] = u
			formedOrNot(t, nil, 1, tagged(sums(l...), 0, whole(1)), false)
		}
	}
	formedOrNot(t, nil, 1, tagged(sums(some...), 6, whole(1)), true)
	formedOrNot(t, nil, 1, tagged(sums(typeTower(6), typeWide(40)), 1, whole(1)), true)
}

// junked returns an expression with something in each field that its operation does not name, in all nodes.
func junked(e api.Exp) api.Exp {
	made := api.Exp{Op: e.Op, N: 1 << 40, S: "\n", T: []api.Type{sums()}}
	switch e.Op {
	case api.ExpVar, api.ExpInt, api.ExpGet, api.ExpBin, api.ExpCall:
		made.N = e.N
	case api.ExpText:
		made.S = e.S
	case api.ExpTag:
		made.N, made.T = e.N, e.T
	}
	for _, part := range e.L {
		made.L = append(made.L, junked(part))
	}
	return made
}

// TestFieldsThatAreNotNamed: R8: they are not looked at, and not put.
func TestFieldsThatAreNotNamed(t *testing.T) {
	anyTimes(2, 500, func(m maker) {
		want := m.anyType()
		e := m.typed(want)
		junk := slices.Clone(m.funs)
		for i := range junk {
			junk[i].Body = junked(junk[i].Body)
		}
		u, err := calc.TypeOf(junk, m.vars, junked(e))
		isType(t, u, err, want, api.OK)
		values := anyValues(m.r, m.vars)
		v, err := calc.Eval(junk, m.vars, values, junked(e))
		isValue(t, v, err, m.eval(e, values), api.OK)
		n := len(m.vars)
		got, err := calc.Put(junked(e), variables(n), n)
		isExp(t, got, err, e, api.OK)
		got, err = calc.Put(vari(0), exps(junked(e)), n)
		isExp(t, got, err, e, api.OK)
		l, err := calc.Uses(junked(e), n)
		isVars(t, l, err, m.uses(e, n), api.OK)
	})
}

// TestSizes: at most 60 nodes, at most 20 of them one within the other.
func TestSizes(t *testing.T) {
	for _, x := range []struct {
		e      api.Exp
		formed bool
	}{
		{deep(20, vari(0)), true},
		{deep(21, vari(0)), false},
		{deep(18, let(whole(1), deep(2, vari(1)))), true},
		{deep(18, let(whole(1), deep(3, vari(1)))), false},
		{list(whole(1), deep(19, vari(0))), true},
		{list(whole(1), deep(20, vari(0)), whole(1)), false},
		{wide(60), true},
		{wide(61), false},
		{wide(70), false},
		{list(wide(29), wide(30)), true},
		{list(wide(30), wide(30)), false},
		{list(deep(19, vari(0)), wide(22)), true},
		{list(deep(19, vari(0)), wide(23)), false},
	} {
		formedOrNot(t, nil, 1, x.e, x.formed)
	}
}

// looped returns an expression that has itself as each of so many parts.
func looped(op, n int) api.Exp {
	l := make([]api.Exp, n)
	for i := range l {
		l[i] = api.Exp{Op: op, T: []api.Type{integer}, L: l}
	}
	return l[0]
}

// TestExpressionsWithin: P1: an expression that holds itself is not formed, and is not followed.
func TestExpressionsWithin(t *testing.T) {
	for op := range 14 {
		for n := 1; n < 10; n++ {
			formedOrNot(t, []api.Fun{fun(whole(1), times(min(n, 8), integer)...)}, 1, looped(op, n), false)
		}
	}
	loop := invalidTypes()[8]
	formedOrNot(t, nil, 1, tagged(sums(loop), 0, whole(1)), false)
	refusesAll(t, nil, []api.Type{loop}, nil, whole(1), api.ErrArg)
	if e := calc.Check([]api.Fun{fun(whole(1), loop)}); e != api.ErrArg {
		t.Error(e)
	}
	v := tup(num(1))
	v.L[0] = v
	w, e := calc.Eval(nil, []api.Type{tuples(integer)}, []api.Value{v}, whole(1))
	isValue(t, w, e, api.Value{}, api.ErrRange)
	w, e = calc.Bin(api.OpSame, v, v)
	isValue(t, w, e, api.Value{}, api.ErrArg)
}

// TestBound: where a variable is bound: in the second part of ExpLet, and in all parts but the first one of ExpCase; it has the number of how many there were.
func TestBound(t *testing.T) {
	const vars = 2
	for op := range 14 {
		least, most := model{}.parts(op)
		for n := max(least, 1); n <= most; n++ {
			for part := range n {
				for v := range 5 {
					e := exp(op, 0, times(n, whole(1))...)
					e.T = []api.Type{integer}
					e.L[part] = vari(v)
					there := vars + model{}.more(op, part)
					callee := fun(whole(1), times(min(n, 8), integer)...)
					formedOrNot(t, []api.Fun{callee}, vars, e, v < there)
					// Behind it, and around it, there are no more.
					formedOrNot(t, []api.Fun{callee}, vars, list(e, vari(v)), v < vars)
					formedOrNot(t, []api.Fun{callee}, vars, let(whole(1), let(e, vari(0))), v < there+1)
					formedOrNot(t, []api.Fun{callee}, vars, let(whole(1), let(vari(0), e)), v < there+2)
				}
			}
		}
	}
}

// TestVariablesFromOutside: at most 40 of them.
func TestVariablesFromOutside(t *testing.T) {
	l, err := calc.Uses(vari(39), 40)
	isVars(t, l, err, []int{39}, api.OK)
	e, err := calc.Put(vari(39), variables(40), 40)
	isExp(t, e, err, vari(39), api.OK)
	u, err := calc.TypeOf(nil, append(times(39, integer), letters), vari(39))
	isType(t, u, err, letters, api.OK)
	v, err := calc.Eval(nil, times(40, integer), append(times(39, num(1)), num(2)), vari(39))
	isValue(t, v, err, num(2), api.OK)
	for _, vars := range []int{41, 42, -1, 1 << 40, -1 << 63} {
		l, err := calc.Uses(whole(1), vars)
		isVars(t, l, err, nil, api.ErrArg)
		for _, l := range [][]api.Exp{nil, {whole(1)}} {
			e, err := calc.Put(whole(1), l, vars)
			isExp(t, e, err, api.Exp{}, api.ErrArg)
		}
	}
	for _, n := range []int{41, 60} {
		refusesAll(t, nil, times(n, integer), times(n, num(1)), whole(1), api.ErrArg)
		e, err := calc.Put(whole(1), times(n, whole(1)), 1)
		isExp(t, e, err, api.Exp{}, api.ErrArg)
	}
}

// TestBoundBehindMany: variables that are bound are not counted among the 40.
func TestBoundBehindMany(t *testing.T) {
	e := vari(50)
	for range 11 {
		e = let(whole(7), e)
	}
	v, err := calc.Eval(nil, times(40, integer), times(40, num(1)), e)
	isValue(t, v, err, num(7), api.OK)
	l, err := calc.Uses(e, 40)
	isVars(t, l, err, nil, api.OK)
	got, err := calc.Put(e, times(40, whole(1)), 40)
	isExp(t, got, err, e, api.OK)
}
