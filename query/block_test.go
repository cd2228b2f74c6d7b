package query_test

import (
	"testing"

	"deltaworks/api"
)

// rulesAre fails unless a view of rules, of a type, behind two inputs of pairs of words, has rows of words.
func rulesAre(t *testing.T, l []api.Zset, as api.Type, rules []api.Rule, want ...[]int) {
	t.Helper()
	isLast(t, pairs(ruled(0, as, rules...)), l, each(want...), api.OK)
}

func tested(r api.Rule, tests ...api.Exp) api.Rule {
	r.Tests = tests
	return r
}

func rulesOf(l ...api.Rule) []api.Rule { return l }

// TestRules: P6.3: a row is there if its rule holds, once.
func TestRules(t *testing.T) {
	l := ins(two([3]int{1, 5, 2}, [3]int{1, 6, -1}, [3]int{2, 2, 7}, [3]int{2, 5, 1}), two([3]int{1, 1, 1}, [3]int{2, 5, 3}, [3]int{2, 6, -1}))
	zero := is(num(0))
	one := vars(0)[0]
	for _, x := range []struct {
		t    api.Type
		r    []api.Rule
		want [][]int
	}{
		{pair, nil, nil},
		{pair, rulesOf(copies()), [][]int{{1, 5}, {2, 2}, {2, 5}}},
		{pair, rulesOf(copies(), copies()), [][]int{{1, 5}, {2, 2}, {2, 5}}},
		{pair, rulesOf(copies(), rule(vars(1, 0), atom(0, 0, 1))), [][]int{{1, 5}, {2, 2}, {2, 5}, {5, 1}, {5, 2}}},
		{single, rulesOf(rule(vars(0), atom(0, 0, 1))), [][]int{{1}, {2}}},
		{unit, rulesOf(rule(nil, atom(0, 0, 1))), [][]int{{}}},
		{unit, rulesOf(rule(nil, atom(1, 0, 1), atom(0, 1, 0))), nil},
		{pair, rulesOf(rule(terms(zero, one), atom(0, 0, 0))), [][]int{{0, 2}}},
		{pair, rulesOf(rule(terms(zero, is(num(-9))))), [][]int{{0, -9}}},
		{pair, rulesOf(tested(rule(terms(zero, zero)), whole(0))), nil},
		{pair, rulesOf(tested(rule(terms(zero, zero)), whole(-1), whole(2))), [][]int{{0, 0}}},
		{pair, rulesOf(rule(vars(0, 2), atom(0, 0, 1), atom(1, 2, 1))), [][]int{{1, 2}, {2, 2}}},
		{pair, rulesOf(rule(vars(0, 1), atom(0, 0, 1), not(1, 0, 1))), [][]int{{1, 5}, {2, 2}}},
		{pair, rulesOf(rule(vars(0, 1), not(1, 0, 1), atom(0, 0, 1), not(1, 0, 0))), [][]int{{2, 2}}},
		{pair, rulesOf(tested(copies(), less(vari(0), vari(1)), less(vari(1), bin(api.OpMul, vari(0), whole(5))))), [][]int{{2, 5}}},
		{single, rulesOf(api.Rule{Head: vars(0), Body: []api.Atom{{Rel: 0, Args: terms(is(num(2)), one)}}}), [][]int{{2}, {5}}},
		{single, rulesOf(api.Rule{Head: vars(0), Body: []api.Atom{{Rel: 0, Args: terms(one, is(num(5)))}, {Rel: 1, Not: true, Args: terms(one, is(num(1)))}}}), [][]int{{2}}},
		{single, rulesOf(api.Rule{Head: vars(0), Body: []api.Atom{{Rel: 0, Args: terms(one, is(num(77)))}}}), nil},
		{tuples(times(3, integer)...), rulesOf(rule(vars(0, 1, 2), atom(0, 0, 1), atom(0, 2, 1))), [][]int{{1, 5, 1}, {1, 5, 2}, {2, 2, 2}, {2, 5, 1}, {2, 5, 2}}},
	} {
		rulesAre(t, l, x.t, x.r, x.want...)
	}
}

// TestNoParts: a relation of the empty tuple has it, or has not.
func TestNoParts(t *testing.T) {
	for n, want := range map[int][][]int{0: {{3}}, 1: {{1}, {2}, {4}}, 5: {{1}, {2}, {4}}, -1: {{3}}} {
		var z api.Zset
		if n != 0 {
			z = zset(row(tup(), n))
		}
		head := func(n int) []api.Term { return terms(is(num(n))) }
		p := program([]api.Type{unit},
			ruled(0, unit, rule(nil, atom(0))),
			ruled(0, single, rule(head(1), atom(0)), rule(head(2), atom(1), atom(0)), rule(head(3), not(0)), rule(head(4), atom(2, 0), atom(1))),
		)
		isLast(t, p, ins(z), each(want...), api.OK)
	}
}

// TestRowsOfAllKinds: values that are put together by rules are the same only if all of them is.
func TestRowsOfAllKinds(t *testing.T) {
	rows := tuples(either, letters)
	p := program([]api.Type{rows},
		ruled(0, tuples(letters, either), rule(vars(1, 0), atom(0, 0, 1)), rule(vars(2, 0), atom(0, 0, 1), atom(1, 2, 0))),
		ruled(0, tuples(either, either), api.Rule{Head: vars(0, 1), Body: []api.Atom{atom(1, 2, 0), atom(1, 2, 1), {Rel: 0, Args: terms(vars(0)[0], is(str("1")))}}}),
	)
	z := zset(row(tup(tag(0, num(1)), str("1")), 1), row(tup(tag(1, str("")), str("")), 1), row(tup(tag(1, str("1")), str("1")), 2), row(tup(tag(1, str("1")), str("2")), 1))
	a, b := tag(0, num(1)), tag(1, str("1"))
	isLast(t, p, ins(z), zset(row(tup(a, a), 1), row(tup(a, b), 1), row(tup(b, a), 1), row(tup(b, b), 1)), api.OK)
}

// TestEachByTheOther: relations of a block that make each other have the least rows for which all rules hold.
func TestEachByTheOther(t *testing.T) {
	even := ruled(4, single, rule(terms(is(num(0)))), rule(vars(1), atom(3, 0), atom(0, 0, 1)))
	odd := ruled(4, single, rule(vars(0), atom(0, 1, 0), atom(2, 1)))
	l := ins(each([]int{0, 1}, []int{1, 2}, []int{2, 3}, []int{7, 8}, []int{8, 7}), nil)
	isLast(t, pairs(even, odd), l, each([]int{1}, []int{3}), api.OK)
	l[0] = each([]int{0, 1}, []int{1, 2}, []int{2, 0})
	isLast(t, pairs(even, odd), l, each([]int{0}, []int{1}, []int{2}), api.OK)
	// What is made of itself alone is not there, nor what each makes of the other.
	isLast(t, pairs(ruled(0, pair, rule(vars(0, 1), atom(2, 0, 1)), rule(vars(0, 1), atom(2, 1, 0), atom(0, 0, 1)))), l, nil, api.OK)
	isLast(t, pairs(ruled(0, pair, rule(vars(0, 1), atom(3, 0, 1))), ruled(0, pair, rule(vars(0, 1), atom(2, 0, 1)))), l, nil, api.OK)
	// A block of which a view denies what a block ahead of it has.
	reached := ruled(0, pair, copies(), rule(vars(0, 2), atom(2, 0, 1), atom(2, 1, 2)))
	apart := ruled(1, pair, rule(vars(0, 2), atom(0, 0, 1), atom(0, 2, 3), not(2, 0, 2)))
	isLast(t, pairs(reached, apart), ins(each([]int{1, 2}, []int{2, 3}, []int{5, 6}), nil), each([]int{1, 1}, []int{1, 5}, []int{2, 1}, []int{2, 2}, []int{2, 5}, []int{5, 1}, []int{5, 2}, []int{5, 5}), api.OK)
}

// TestRulesOfViews: rules are made of views as of inputs, and views of them; each of these as its set.
func TestRulesOfViews(t *testing.T) {
	l := ins(two([3]int{1, 2, 3}, [3]int{2, 3, -1}), two([3]int{1, 2, 3}, [3]int{2, 3, -1}, [3]int{4, 4, 1}))
	p := pairs(
		made(api.ViewNeg, []int{0}),
		ruled(0, pair, rule(vars(0, 1), atom(2, 0, 1)), rule(vars(0, 1), atom(1, 0, 1), not(2, 0, 1))),
		made(api.ViewSum, []int{3, 3, 1}),
	)
	isLast(t, p, l, two([3]int{1, 2, 5}, [3]int{2, 3, 1}, [3]int{4, 4, 3}), api.OK)
}

// TestLongWays: a block is settled only when nothing follows any more, however far that is.
func TestLongWays(t *testing.T) {
	var steps api.Zset
	for n := range 150 {
		steps = append(steps, row(words(n, n+1), 1))
	}
	var want api.Zset
	for a := range 150 {
		for b := a + 1; b <= 150; b++ {
			want = append(want, row(words(a, b), 1))
		}
	}
	for _, second := range []api.Rule{
		rule(vars(0, 2), atom(2, 0, 1), atom(0, 1, 2)),
		rule(vars(0, 2), atom(0, 0, 1), atom(2, 1, 2)),
		rule(vars(0, 2), atom(2, 0, 1), atom(2, 1, 2)),
	} {
		isLast(t, pairs(ruled(0, pair, copies(), second)), ins(steps, nil), want, api.OK)
	}
}

// TestWideRules: P1: a rule of atoms that have nothing to do with each other ends, too.
func TestWideRules(t *testing.T) {
	l := ins(many(0, 20000), each([]int{1, 1}))
	apart := rule(vars(0, 1), atom(0, 2, 3), atom(0, 4, 5), atom(1, 0, 1), atom(0, 6, 7), atom(0, 8, 9), atom(0, 10, 11))
	rulesAre(t, l, pair, rulesOf(apart), []int{1, 1})
	rulesAre(t, l, pair, rulesOf(tested(apart, vari(1))), []int{1, 1})
	rulesAre(t, l, pair, rulesOf(rule(vars(0, 1), atom(1, 0, 1), atom(0, 0, 2), atom(0, 3, 2), atom(0, 4, 5))), []int{1, 1})
	// So does one that asks anew, for each row of its block, whether there is any of very many.
	var steps api.Zset
	var want [][]int
	for n := range 5000 {
		steps = append(steps, row(words(n, n+1), 1))
		want = append(want, []int{n})
	}
	first, next := rule(terms(is(num(0)))), rule(vars(1), atom(2, 0), atom(1, 0, 1), atom(0, 2, 3))
	rulesAre(t, ins(l[0], steps), single, rulesOf(first, next), append(want, []int{5000})...)
}

// TestManyWays: P1: a rule that can be met in very many ways ends, too, whether it is met or not.
func TestManyWays(t *testing.T) {
	var all api.Zset
	var want [][]int
	for a := range 40 {
		want = append(want, []int{a})
		for b := range 40 {
			all = append(all, row(words(a, b), 1))
		}
	}
	l := ins(all, nil)
	long := rule(vars(0), atom(0, 0, 1), atom(0, 1, 2), atom(0, 2, 3), atom(0, 3, 4), atom(0, 4, 5), atom(0, 5, 6))
	rulesAre(t, l, single, rulesOf(long), want...)
	rulesAre(t, l, single, rulesOf(tested(long, less(vari(6), whole(0)))))
	long.Body[5].Rel = 1
	rulesAre(t, l, single, rulesOf(long))
}
