package lang_test

import (
	"math"
	"reflect"
	"strings"
	"testing"

	"deltaworks/api"
	"deltaworks/lang"
)

// areUnreadable fails unless nothing is written of things, as none of them is what a text is read as.
func areUnreadable[T any](t *testing.T, write func(T) (string, api.Errno), l ...T) {
	t.Helper()
	for _, x := range l {
		isWritten(t, write, x, "", api.ErrArg)
	}
}

// TestUnreadableExps: the errors of P7.2, of expressions.
func TestUnreadableExps(t *testing.T) {
	a := vari(0)
	with := func(x api.Exp, alter func(x *api.Exp)) api.Exp {
		alter(&x)
		return x
	}
	areUnreadable(t, lang.WriteExp,
		exp(-1, 0), exp(14, 0), exp(math.MinInt, 0), exp(math.MaxInt, 0, a),
		vari(-1), vari(1000), vari(math.MinInt), exp(api.ExpVar, 0, a),
		whole(1<<31), whole(-1<<31-1), exp(api.ExpInt, 0, a),
		text("\n"), text("\x7f"), text("\xff"), text(strings.Repeat("a", 101)), exp(api.ExpText, 0, a), exp(api.ExpText, 1),
		exp(api.ExpTuple, 1), exp(api.ExpTuple, -1, a),
		exp(api.ExpGet, 0), exp(api.ExpGet, 0, a, a), exp(api.ExpGet, -1, a), exp(api.ExpGet, 1000, a),
		tagged(0, a), tagged(-1, a, integer), tagged(1000, a, integer), tagged(0, a, sums()), tagged(0, a, api.Type{Kind: 4}),
		tagged(0, a, times(9, integer)...), tagged(0, a, tuples(tuples(tuples(tuples(tuples(integer)))))),
		tagged(0, a, times(5, tuples(times(7, integer)...))...), api.Exp{Op: api.ExpTag, T: []api.Type{integer}},
		exp(api.ExpCase, 0), exp(api.ExpCase, 0, a), exp(api.ExpCase, 1, a, a),
		exp(api.ExpLet, 0, a), exp(api.ExpLet, 0, a, a, a), exp(api.ExpLet, 1, a, a),
		exp(api.ExpIf, 0, a, a), exp(api.ExpIf, 0, a, a, a, a), exp(api.ExpIf, 1, a, a, a),
		exp(api.ExpBin, -1, a, a), exp(api.ExpBin, api.Ops, a, a), exp(api.ExpBin, 0, a), exp(api.ExpBin, 0, a, a, a), exp(api.ExpBin, 0),
		exp(api.ExpSize, 0), exp(api.ExpSize, 0, a, a), exp(api.ExpSize, 1, a),
		exp(api.ExpJoin, 0, a), exp(api.ExpJoin, 0, a, a, a), exp(api.ExpJoin, 2, a, a),
		exp(api.ExpCut, 0, a, a), exp(api.ExpCut, 0, a, a, a, a), exp(api.ExpCut, 3, a, a, a),
		exp(api.ExpCall, -1), exp(api.ExpCall, 1000, a),
		list(a, whole(1<<31)), list(list(exp(99, 0)), a),
	)
	for _, x := range []api.Exp{a, whole(0), text("a"), list(a), exp(api.ExpGet, 0, a), exp(api.ExpCase, 0, a, a), exp(api.ExpBin, 0, a, a), exp(api.ExpCall, 0)} {
		areUnreadable(t, lang.WriteExp, with(x, func(x *api.Exp) { x.T = []api.Type{integer} }))
		if x.Op != api.ExpText {
			areUnreadable(t, lang.WriteExp, with(x, func(x *api.Exp) { x.S = "a" }))
		}
	}
	isExp(t, tagged(0, a, tuples(tuples(tuples(tuples(integer))))), "tag0[((((int))))](x0)")
}

// TestUnreadablePrograms: the errors of P7.2, of programs.
func TestUnreadablePrograms(t *testing.T) {
	a, r := vari(0), []int{0}
	two := []int{0, 0}
	rule := func(r api.Rule) api.Prog { return of(rules(0, integer, r)) }
	with := func(v api.View, alter func(v *api.View)) api.Prog {
		alter(&v)
		return of(v)
	}
	areUnreadable(t, lang.Write,
		api.Prog{Outs: []int{-1}}, api.Prog{Outs: []int{1000}}, api.Prog{Outs: []int{0, math.MinInt}},
		api.Prog{Inputs: []api.Type{{Kind: 4}}}, api.Prog{Inputs: []api.Type{integer, sums()}}, api.Prog{Inputs: []api.Type{{L: []api.Type{integer}}}},
		api.Prog{Funs: []api.Fun{{Params: []api.Type{sums()}, Body: a}}}, api.Prog{Funs: []api.Fun{{Body: vari(1000)}}}, api.Prog{Funs: []api.Fun{{Body: a}, {Body: exp(99, 0)}}},
		api.Prog{Funs: times(1001, api.Fun{Body: a})}, api.Prog{Inputs: times(1001, integer)}, api.Prog{Views: times(1001, view(api.ViewNeg, 0, r))},
		api.Prog{Inputs: times(500, integer), Views: times(501, view(api.ViewNeg, 0, r))},
		of(view(-1, 0, r)), of(view(8, 0, r)), of(view(math.MinInt, 0, r)),
		of(view(api.ViewMap, 0, r)), of(view(api.ViewMap, 0, nil, a)), of(view(api.ViewMap, 0, two, a)), of(view(api.ViewMap, 1, r, a)),
		of(view(api.ViewKeep, 0, r)), of(view(api.ViewKeep, 0, nil, a)), of(view(api.ViewKeep, 0, two, a)), of(view(api.ViewKeep, 0, r, a, a)), of(view(api.ViewKeep, 1, r, a)),
		of(view(api.ViewSum, 0, nil)), of(view(api.ViewSum, 0, r, a)), of(view(api.ViewSum, 1, r)),
		of(view(api.ViewNeg, 0, nil)), of(view(api.ViewNeg, 0, two)), of(view(api.ViewNeg, 0, r, a)), of(view(api.ViewNeg, 1, r)),
		of(view(api.ViewOnce, 0, nil)), of(view(api.ViewOnce, 0, two)), of(view(api.ViewOnce, 0, r, a)), of(view(api.ViewOnce, -1, r)),
		of(view(api.ViewJoin, 0, r, a, a, a)), of(view(api.ViewJoin, 0, []int{0, 0, 0}, a, a, a)), of(view(api.ViewJoin, 0, two, a, a)), of(view(api.ViewJoin, 0, two, a, a, a, a)), of(view(api.ViewJoin, 1, two, a, a, a)),
		of(view(api.ViewFold, -1, r, a)), of(view(api.ViewFold, 4, r, a, a)), of(view(api.ViewFold, 0, r, a, a)), of(view(api.ViewFold, 0, r)), of(view(api.ViewFold, 0, two, a)), of(view(api.ViewFold, 0, nil, a)),
		of(view(api.ViewFold, 1, r, a)), of(view(api.ViewFold, 2, r, a, a, a)), of(view(api.ViewFold, 3, two, a, a)), of(view(api.ViewFold, 3, r)),
		of(view(api.ViewNeg, 0, []int{-1})), of(view(api.ViewSum, 0, []int{0, 1000})), of(view(api.ViewKeep, 0, r, vari(1000))),
		of(rules(-1, integer)), of(rules(1000, integer)), of(rules(0, api.Type{Kind: 4})), of(view(api.ViewRules, 0, r)), of(view(api.ViewRules, 0, nil, a)),
		rule(api.Rule{Head: vars(1000)}), rule(api.Rule{Head: vars(-2)}), rule(api.Rule{Head: vars(math.MinInt)}),
		rule(api.Rule{Head: terms(is(api.Value{Kind: 4}))}), rule(api.Rule{Head: terms(is(tag(8, num(0))))}), rule(api.Rule{Head: terms(is(num(1 << 31)))}), rule(api.Rule{Head: terms(is(tup(times(9, num(0))...)))}),
		rule(api.Rule{Head: []api.Term{{Var: 0, Value: num(1)}}}), rule(api.Rule{Head: []api.Term{{Var: 1, Value: str("")}}}), rule(api.Rule{Head: []api.Term{{Var: 1, Value: api.Value{S: "a"}}}}), rule(api.Rule{Head: []api.Term{{Var: 1, Value: api.Value{L: []api.Value{{}}}}}}),
		rule(api.Rule{Body: []api.Atom{{Rel: -1}}}), rule(api.Rule{Body: []api.Atom{{Rel: 1000, Not: true}}}), rule(api.Rule{Body: []api.Atom{{Args: vars(0, 1000)}}}),
		rule(api.Rule{Tests: exps(a, vari(1000))}), rule(api.Rule{Tests: exps(exp(api.ExpSize, 0))}),
	)
	for _, v := range []api.View{
		view(api.ViewMap, 0, r, a), view(api.ViewKeep, 0, r, a), view(api.ViewSum, 0, r), view(api.ViewNeg, 0, r), view(api.ViewOnce, 0, r),
		view(api.ViewJoin, 0, two, a, a, a), view(api.ViewFold, 0, r, a), view(api.ViewFold, 1, r, a, a),
	} {
		areUnreadable(t, lang.Write,
			with(v, func(v *api.View) { v.T = letters }), with(v, func(v *api.View) { v.T.L = []api.Type{integer} }),
			with(v, func(v *api.View) { v.Rules = []api.Rule{{}} }),
		)
	}
}

// TestUnreadableCollections: the errors of P7.2, of collections.
func TestUnreadableCollections(t *testing.T) {
	areUnreadable(t, lang.WriteZset,
		api.Zset{row(num(1), 0)}, api.Zset{row(num(2), 1), row(num(1), 1)}, api.Zset{row(num(1), 1), row(num(1), 1)},
		api.Zset{row(num(1<<31), 1)}, api.Zset{row(api.Value{Kind: 4}, 1)}, api.Zset{row(tag(8, num(1)), 1)}, api.Zset{row(str("\n"), 1)},
		api.Zset{row(num(1), 1e18)}, api.Zset{row(num(1), -1e18)}, api.Zset{row(num(1), math.MaxInt)}, api.Zset{row(num(1), math.MinInt)},
		api.Zset{row(num(1), 1), row(num(2), 1e18)},
	)
}

// clone returns a copy of something that shares no memory with it, and whose lists have room behind their ends.
func clone[T any](x T) T {
	var copied func(v reflect.Value) reflect.Value
	copied = func(v reflect.Value) reflect.Value {
		made := reflect.New(v.Type()).Elem()
		made.Set(v)
		switch v.Kind() {
		case reflect.Struct:
			for i := range v.NumField() {
				made.Field(i).Set(copied(v.Field(i)))
			}
		case reflect.Slice:
			made.Set(reflect.MakeSlice(v.Type(), v.Len(), v.Len()+2))
			for i := range v.Len() {
				made.Index(i).Set(copied(v.Index(i)))
			}
		}
		return made
	}
	return copied(reflect.ValueOf(&x).Elem()).Interface().(T)
}

// parts are all fields and elements within something that can be altered.
func parts(x reflect.Value) (l []reflect.Value) {
	switch x.Kind() {
	case reflect.Struct:
		for i := range x.NumField() {
			l = append(l, parts(x.Field(i))...)
		}
		return l
	case reflect.Slice:
		for i := range x.Len() {
			l = append(l, parts(x.Index(i))...)
		}
	}
	return append(l, x)
}

// alter alters one part of something: a number, a text, a denial, or a list.
func alter(m maker, p reflect.Value) {
	l := parts(p)
	x := pick(m.Rand, l...)
	switch x.Kind() {
	case reflect.Int:
		x.SetInt(pick(m.Rand, x.Int()+1, x.Int()-1, int64(m.Intn(14)), 0, -1, 999, 1000, api.WordHigh+1, 1e18, math.MinInt64))
	case reflect.Bool:
		x.SetBool(!x.Bool())
	case reflect.String:
		x.SetString(pick(m.Rand, "", "a", "\n", "\"", strings.Repeat("a", 100), strings.Repeat("a", 101)))
	case reflect.Slice:
		n := x.Len()
		switch more := pick(m.Rand, 0, 1, 2, 9); {
		case n == 0:
			x.Set(reflect.MakeSlice(x.Type(), more, more))
		case m.Intn(2) == 0:
			x.Set(x.Slice(0, m.Intn(n)))
		default:
			for range more {
				x.Set(reflect.Append(x, x.Index(m.Intn(n))))
			}
		}
	}
}

// isFound fails unless a text of altered things is written just if there is one that is read as them; it reports whether there is.
func isFound[T any](t *testing.T, m maker, x T, put func(*pieces, T), write func(T) (string, api.Errno), read func(string) (T, int, api.Errno)) bool {
	t.Helper()
	x = clone(x)
	for range 1 + m.Intn(2) {
		alter(m, reflect.ValueOf(&x).Elem())
	}
	p := piecesOf(x, put)
	s, e := p.written(), api.OK
	if y, _, err := read(s); p.none || err != api.OK || !same(x, y) {
		s, e = "", api.ErrArg
	}
	if isWritten(t, write, x, s, e); t.Failed() {
		t.Fatalf("%+v", x)
	}
	return e == api.OK
}

// TestAlteredIsWritten: the errors of P7.2: of things of which few parts are altered a text is written just if there is one that is read as them.
func TestAlteredIsWritten(t *testing.T) {
	seen := map[bool]int{}
	anyTimes(5, 10000, func(m maker) {
		seen[isFound(t, m, m.prog(), (*pieces).prog, lang.Write, lang.Read)]++
		seen[isFound(t, m, m.exp(1+m.Intn(4)), (*pieces).exp, lang.WriteExp, lang.ReadExp)]++
		seen[isFound(t, m, m.zset(), (*pieces).zset, lang.WriteZset, lang.ReadZset)]++
	})
	if seen[true] < 5000 || seen[false] < 5000 {
		t.Error(seen)
	}
}
