package query_test

import (
	"testing"

	"deltaworks/api"
	"deltaworks/query"
)

// isChecked fails unless a program has an error, or none, wherever it is given, and has types and blocks unless it has.
func isChecked(t *testing.T, p api.Prog, want api.Errno) {
	t.Helper()
	l := make([]api.Zset, len(p.Inputs))
	types, byTypes := query.Types(p)
	blocks, byBlocks := query.Blocks(p)
	rels, byEval := query.Eval(p, l)
	outs, byAnswers := query.Answers(p, l)
	made, byApply := query.Apply(p, l, l)
	versions, byVersions := query.Versions(p, [][]api.Zset{l})
	for i, e := range []api.Errno{query.Check(p), byTypes, byBlocks, byEval, byAnswers, byApply, byVersions} {
		if e != want {
			t.Errorf("%d: error %d, not %d, of %+v", i, e, want, p)
		}
	}
	if want != api.OK && len(types)+len(blocks)+len(rels)+len(outs)+len(made)+len(versions) != 0 {
		t.Errorf("%v, %v, %v, %v, %v, %v", types, blocks, rels, outs, made, versions)
	}
}

// lastIs fails unless a program of inputs of pairs with a view more, the last one, has an error, or none. ErrArg comes ahead of ErrType, also of functions.
func lastIs(t *testing.T, v api.View, want api.Errno, ahead ...api.View) {
	t.Helper()
	p := pairs(append(ahead, v)...)
	isChecked(t, p, want)
	if want == api.ErrArg {
		p.Funs = []api.Fun{{Body: get(0, whole(1))}}
		isChecked(t, p, want)
	}
}

// invalidTypes returns types that are not valid; one of them holds itself.
func invalidTypes() []api.Type {
	loop := []api.Type{tuples(integer)}
	loop[0].L = loop
	return []api.Type{sums(), kind(4), kind(-1), kind(api.TypeInt, integer), tuples(times(9, integer)...), tuples(integer, sums()), tower(7), loop[0]}
}

func invalidValues() []api.Value {
	loop := []api.Value{tup(num(1))}
	loop[0].L = loop
	return []api.Value{num(1 << 31), str("\n"), {Kind: 4}, {Kind: -1}, {S: "a"}, tag(8, num(1)), {Kind: api.ValueTag}, tup(times(9, num(0))...), loop[0]}
}

// invalidExps returns expressions that are not formed, with any variables; one of them holds itself.
func invalidExps() []api.Exp {
	loop := []api.Exp{list(whole(1))}
	loop[0].L = loop
	return []api.Exp{vari(40), vari(-1), exp(14, 0), whole(1 << 31), get(8, vari(0)), exp(api.ExpCall, 19), text("\t"), bin(12, whole(1), whole(1)), list(times(9, whole(1))...), loop[0]}
}

// TestInputs: a program has 1 to 8 inputs with valid row types.
func TestInputs(t *testing.T) {
	for n := range 11 {
		want := api.ErrArg
		if n >= 1 && n <= 8 {
			want = api.OK
		}
		isChecked(t, program(times(n, letters)), want)
	}
	for _, bad := range invalidTypes() {
		isChecked(t, program([]api.Type{bad}), api.ErrArg)
		isChecked(t, program([]api.Type{integer, bad}), api.ErrArg)
	}
	for _, good := range []api.Type{integer, letters, unit, pair, either, tower(6)} {
		isChecked(t, program([]api.Type{good}), api.OK)
	}
}

// TestViewsAndOuts: there are at most 40 views, and 8 answers, which are relations, any number of times each.
func TestViewsAndOuts(t *testing.T) {
	isChecked(t, pairs(times(40, made(api.ViewNeg, []int{0}))...), api.OK)
	isChecked(t, pairs(times(41, made(api.ViewNeg, []int{0}))...), api.ErrArg)
	for _, x := range []struct {
		outs []int
		e    api.Errno
	}{
		{nil, api.OK}, {[]int{0}, api.OK}, {[]int{5, 0, 5}, api.OK}, {times(8, 3), api.OK},
		{times(9, 3), api.ErrArg}, {[]int{6}, api.ErrArg}, {[]int{-1}, api.ErrArg}, {[]int{0, 1 << 60}, api.ErrArg},
	} {
		p := sample()
		p.Outs = x.outs
		isChecked(t, p, x.e)
	}
}

// valid returns a view of each operation, and fold, that is valid behind two inputs of pairs.
func valid() []api.View {
	return []api.View{
		made(api.ViewMap, []int{0}, part(0)),
		made(api.ViewKeep, []int{0}, part(0)),
		made(api.ViewSum, []int{0}),
		made(api.ViewNeg, []int{0}),
		made(api.ViewOnce, []int{0}),
		made(api.ViewJoin, []int{0, 1}, part(0), part(1), list(vari(0), vari(1))),
		fold(api.FoldCount, 0, part(0)),
		fold(api.FoldSum, 0, part(0), part(1)),
		fold(api.FoldMin, 0, part(0), part(1)),
		fold(api.FoldMax, 0, part(0), part(1)),
		ruled(0, pair, rule(vars(0, 1), atom(0, 0, 1))),
	}
}

// TestOperations: there are eight operations, and four folds.
func TestOperations(t *testing.T) {
	for _, v := range valid() {
		lastIs(t, v, api.OK)
		for _, op := range []int{-1, 8, 9, 1 << 40} {
			v.Op = op
			lastIs(t, v, api.ErrArg)
		}
	}
	for _, n := range []int{-1, 4, 1 << 40} {
		lastIs(t, fold(n, 0, part(0)), api.ErrArg)
		lastIs(t, fold(n, 0, part(0), part(1)), api.ErrArg)
	}
}

// TestFrom: a view is made of as many relations as its operation says, which are ahead of it.
func TestFrom(t *testing.T) {
	for _, v := range valid() {
		if v.Op == api.ViewRules {
			continue
		}
		least, most := 1, 1
		switch v.Op {
		case api.ViewSum:
			most = 6
		case api.ViewJoin:
			least, most = 2, 2
		}
		for n := range 9 {
			want := api.OK
			if n < least || n > most {
				want = api.ErrArg
			}
			v.From = times(n, 1)
			lastIs(t, v, want)
		}
		for i := range most {
			for _, rel := range []int{-1, 3, 4, 1 << 40} {
				v.From = times(most, 2)
				lastIs(t, v, api.OK, made(api.ViewNeg, []int{0}))
				v.From[i] = rel
				lastIs(t, v, api.ErrArg, made(api.ViewNeg, []int{0}))
			}
		}
	}
}

// TestExpressions: a view has as many expressions as its operation says, each one formed, with the rows as variables that it has.
func TestExpressions(t *testing.T) {
	for _, v := range valid() {
		n := len(v.F)
		least, most := n, n
		switch v.Op {
		case api.ViewMap:
			most = 4
		case api.ViewSum, api.ViewNeg, api.ViewOnce, api.ViewRules:
			continue
		}
		for k := range 7 {
			v.F = append(append(exps(), v.F[:min(n, k)]...), times(max(0, k-n), part(0))...)
			want := api.OK
			if k < least || k > most {
				want = api.ErrArg
			}
			lastIs(t, v, want)
			v.F = append(v.F, times(7, part(0))...)
		}
		v.F = v.F[:n]
		for i, f := range v.F {
			for _, bad := range append(invalidExps(), vari(2)) {
				v.F[i] = bad
				lastIs(t, v, api.ErrArg)
				v.F[i] = list(bad)
				lastIs(t, v, api.ErrArg)
			}
			v.F[i] = list(f, vari(1))
			want := api.ErrArg
			if v.Op == api.ViewJoin && i == 2 {
				want = api.OK
			}
			lastIs(t, v, want)
			v.F[i] = f
		}
	}
}

// TestNotLookedAt: fields that a view, or a term, does not name are not looked at.
func TestNotLookedAt(t *testing.T) {
	worst := rule(terms(is(invalidValues()[0])), atom(99, 99))
	for _, v := range valid() {
		bare := v
		if v.Op != api.ViewFold {
			v.N = 1 << 50
		}
		switch v.Op {
		case api.ViewRules:
			v.From, v.F = []int{99, -1}, invalidExps()
			v.Rules[0].Head[0].Value, v.Rules[0].Body[0].Args[1].Value = invalidValues()[1], invalidValues()[8]
		case api.ViewSum, api.ViewNeg, api.ViewOnce:
			v.F = invalidExps()
			fallthrough
		default:
			v.T, v.Rules = invalidTypes()[7], times(9, worst)
		}
		lastIs(t, v, api.OK)
		l := ins(two([3]int{1, 2, 3}, [3]int{2, 1, -1}), two([3]int{2, 1, 1}))
		got, e := query.Eval(pairs(v), l)
		want, _ := query.Eval(pairs(bare), l)
		areRels(t, got, e, want, api.OK)
	}
}

// TestFunctions: functions are formed, and typed; expressions may call them.
func TestFunctions(t *testing.T) {
	half := api.Fun{Params: []api.Type{integer}, Body: bin(api.OpDiv, vari(0), whole(2))}
	halves := made(api.ViewMap, []int{0}, exp(api.ExpCall, 0, part(1)))
	p := pairs(halves)
	p.Funs = []api.Fun{half}
	isChecked(t, p, api.OK)
	p.Funs = times(20, half)
	isChecked(t, p, api.OK)
	p.Funs = times(21, half)
	isChecked(t, p, api.ErrArg)
	p.Funs = []api.Fun{half, {Body: vari(0)}}
	isChecked(t, p, api.ErrArg)
	p.Funs = []api.Fun{half, {Body: get(0, whole(1))}}
	isChecked(t, p, api.ErrType)
	for _, bad := range invalidExps() {
		p.Funs = []api.Fun{half, {Body: bad}}
		isChecked(t, p, api.ErrArg)
		p.Views[0].F = exps(exp(api.ExpCall, 1))
		isChecked(t, p, api.ErrArg)
		p.Views[0].F = halves.F
	}
	p.Funs = []api.Fun{half}
	p.Views[0].F = exps(exp(api.ExpCall, 0, vari(0)))
	isChecked(t, p, api.ErrType)
	for _, e := range exps(exp(api.ExpCall, 1, part(0)), exp(api.ExpCall, 0, part(0), part(1)), exp(api.ExpCall, -1, part(0))) {
		p.Views[0].F = exps(e)
		isChecked(t, p, api.ErrArg)
	}
}
