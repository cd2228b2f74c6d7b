package calc_test

import (
	"slices"
	"testing"

	"deltaworks/api"
	"deltaworks/calc"
)

// areResults fails unless functions have these types, or are refused with an error.
func areResults(t *testing.T, funs []api.Fun, want []api.Type, e api.Errno) {
	t.Helper()
	l, err := calc.Results(funs)
	if err != e || !slices.EqualFunc(l, want, alike) {
		t.Errorf("%v, %d, not %v, %d", l, err, want, e)
	}
	if err := calc.Check(funs); err != e {
		t.Errorf("Check: %d, not %d", err, e)
	}
	// What is given with functions is refused as they are, and not otherwise.
	u, err := calc.TypeOf(funs, nil, text("a"))
	isType(t, u, err, map[bool]api.Type{true: letters}[e == api.OK], e)
	v, err := calc.Eval(funs, nil, nil, text("a"))
	isValue(t, v, err, map[bool]api.Value{true: str("a")}[e == api.OK], e)
}

// refusedFuns fails unless functions are refused with an error.
func refusedFuns(t *testing.T, e api.Errno, funs ...api.Fun) {
	t.Helper()
	areResults(t, funs, nil, e)
}

// TestResults: P5.1: the types of the bodies, in order.
func TestResults(t *testing.T) {
	areResults(t, nil, nil, api.OK)
	areResults(t, []api.Fun{}, nil, api.OK)
	areResults(t, []api.Fun{fun(whole(1)), fun(vari(1), integer, maybe), fun(list(call(0), call(1, call(0), vari(0))), maybe), fun(vari(0), unit)},
		[]api.Type{integer, maybe, tuples(integer, maybe), unit}, api.OK)
	all := fun(list(vari(7), vari(0)), either, letters, integer, integer, integer, integer, integer, pair)
	areResults(t, times(20, all), times(20, tuples(pair, either)), api.OK)
}

// TestFunsThatAreNotFormed: P5.1: how many there are, their parameters, and their bodies.
func TestFunsThatAreNotFormed(t *testing.T) {
	one := fun(whole(1))
	refusedFuns(t, api.ErrArg, times(21, one)...)
	refusedFuns(t, api.ErrArg, make([]api.Fun, 1000)...)
	areResults(t, times(20, one), times(20, integer), api.OK)
	refusedFuns(t, api.ErrArg, fun(whole(1), times(9, integer)...))
	areResults(t, []api.Fun{fun(vari(7), times(8, integer)...)}, []api.Type{integer}, api.OK)
	for _, u := range invalidTypes() {
		for i := range 8 {
			l := times(8, integer)
			l[i] = u
			refusedFuns(t, api.ErrArg, one, fun(whole(1), l...), one)
		}
	}
	for n := range 9 {
		for v := range 10 {
			if e := calc.Check([]api.Fun{fun(vari(v), times(n, integer)...)}); (e == api.OK) != (v < n) || (e == api.ErrArg) != (v >= n) {
				t.Errorf("variable %d of %d: %d", v, n, e)
			}
		}
	}
	refusedFuns(t, api.ErrArg, api.Fun{})
	refusedFuns(t, api.ErrArg, one, fun(exp(14, 0)))
	refusedFuns(t, api.ErrArg, fun(wide(61)))
	refusedFuns(t, api.ErrArg, fun(deep(21, whole(1))))
}

// TestFunsThatAreCalled: P5.1: only functions with lower numbers may be called, with as many parts as they have parameters.
func TestFunsThatAreCalled(t *testing.T) {
	for at := range 20 {
		for n := -1; n < 21; n++ {
			funs := times(20, fun(whole(1)))
			funs[at].Body = call(n)
			if e := calc.Check(funs); (e == api.OK) != (n >= 0 && n < at) || e != api.OK && e != api.ErrArg {
				t.Errorf("%d calls %d: %d", at, n, e)
			}
			u, e := calc.TypeOf(funs[:at], nil, call(n))
			if n >= 0 && n < at {
				isType(t, u, e, integer, api.OK)
			} else {
				isType(t, u, e, api.Type{}, api.ErrArg)
			}
		}
	}
	for params := range 9 {
		for parts := range 10 {
			funs := []api.Fun{fun(whole(1), times(params, integer)...)}
			e := call(0, times(parts, whole(1))...)
			want := api.OK
			if params != parts {
				want = api.ErrArg
			}
			if _, err := calc.TypeOf(funs, nil, e); err != want {
				t.Errorf("%d parts for %d: %d", parts, params, err)
			}
			if err := calc.Check(append(funs, fun(e))); err != want {
				t.Errorf("%d parts for %d: %d", parts, params, err)
			}
			freeOrNot(t, 0, e, parts <= 8)
		}
	}
}

// TestWholeSizes: P5.1: the whole size of a body is at most 2000: how many nodes it has, and for each call in it the whole size of what is called.
func TestWholeSizes(t *testing.T) {
	for _, x := range []struct {
		n int
		e api.Errno
	}{{1, api.OK}, {33, api.OK}, {34, api.OK}, {35, api.ErrArg}, {36, api.ErrArg}, {54, api.ErrArg}} {
		funs := []api.Fun{
			fun(numbered(60)),                       // 60
			fun(get(0, list(times(8, call(0))...))), // 10 + 8 * 60
			fun(get(0, list(call(1), call(1), call(1), call(1), numbered(x.n)))), // 6 + n + 4 * 490
		}
		if x.e == api.OK {
			areResults(t, funs, times(3, integer), api.OK)
			areResults(t, append(funs, fun(whole(1))), times(4, integer), api.OK)
			// Of what is evaluated the whole size is not limited.
			u, e := calc.TypeOf(funs, nil, list(times(8, call(2))...))
			isType(t, u, e, tuples(times(8, integer)...), api.OK)
			v, e := calc.Eval(funs, nil, nil, list(times(8, call(2))...))
			isValue(t, v, e, model{funs: funs}.eval(list(times(8, call(2))...), nil), api.OK)
		} else {
			refusedFuns(t, x.e, funs...)
			refusedFuns(t, x.e, append(funs, fun(whole(1)))...)
		}
	}
	// Whole sizes 1, 5, 13 and so on, of the last one 2045.
	funs := []api.Fun{fun(vari(0), letters)}
	for n := range 9 {
		areResults(t, funs, times(n+1, letters), api.OK)
		funs = append(funs, fun(call(n, call(n, vari(0))), letters))
	}
	refusedFuns(t, api.ErrArg, funs...)
}

// TestFunsThatAreNotTyped: P5.1: each body must be typed, with parameters of the types that they are said to be of.
func TestFunsThatAreNotTyped(t *testing.T) {
	one := fun(whole(1))
	wrong := fun(add(vari(0), vari(0)), letters)
	refusedFuns(t, api.ErrType, wrong)
	refusedFuns(t, api.ErrType, one, wrong, one)
	refusedFuns(t, api.ErrType, one, one, wrong)
	refusedFuns(t, api.ErrType, fun(vari(0), letters), fun(call(0, whole(1))))
	refusedFuns(t, api.ErrType, one, fun(join(call(0), text("a"))))
	refusedFuns(t, api.ErrType, fun(size(vari(1)), letters, integer))
	areResults(t, []api.Fun{fun(size(vari(1)), integer, letters)}, []api.Type{integer}, api.OK)
	areResults(t, []api.Fun{fun(vari(0), typeTower(6), typeWide(40))}, []api.Type{typeTower(6)}, api.OK)
	refusedFuns(t, api.ErrType, fun(list(vari(0)), typeTower(6), typeWide(40)))
	refusedFuns(t, api.ErrType, fun(list(vari(1)), typeTower(6), typeWide(40)))
}
