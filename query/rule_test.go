package query_test

import (
	"testing"

	"deltaworks/api"
)

// ruleIs fails unless a rule for pairs of words, behind two inputs of pairs of words, has an error, or none.
func ruleIs(t *testing.T, r api.Rule, want api.Errno) {
	t.Helper()
	lastIs(t, ruled(0, pair, r), want)
}

// copies is the rule by which a view of pairs has the rows of input 0.
func copies() api.Rule { return rule(vars(0, 1), atom(0, 0, 1)) }

// TestRowTypeOfRules: a view of rules has a row type that is a tuple, and at most 8 rules.
func TestRowTypeOfRules(t *testing.T) {
	for _, good := range []api.Type{unit, single, pair, tuples(times(8, either)...), tower(6)} {
		lastIs(t, ruled(0, good), api.OK)
	}
	for _, bad := range append(invalidTypes(), integer, letters, either, sums(pair)) {
		lastIs(t, ruled(0, bad), api.ErrArg)
	}
	lastIs(t, ruled(0, pair, times(8, copies())...), api.OK)
	lastIs(t, ruled(0, pair, times(9, copies())...), api.ErrArg)
	lastIs(t, ruled(0, unit, rule(nil)), api.OK)
	lastIs(t, ruled(0, pair, copies(), rule(vars(0), atom(0, 0, 1))), api.ErrArg)
}

// TestCounts: a rule has as many terms in its head as the type has parts, at most 6 atoms, and at most 4 tests.
func TestCounts(t *testing.T) {
	for n := range 10 {
		head := rule(times(n, vars(0)[0]), atom(0, 0, 0))
		body := rule(vars(0, 1), times(n, atom(0, 0, 1))...)
		body.Body = append(body.Body, not(1, 0, 1))
		tests := copies()
		tests.Tests = times(n, whole(1))
		for _, x := range []struct {
			r  api.Rule
			is bool
		}{{head, n == 2}, {body, n >= 1 && n <= 5}, {tests, n <= 4}} {
			want := api.ErrArg
			if x.is {
				want = api.OK
			}
			ruleIs(t, x.r, want)
		}
	}
}

// TestTerms: a term is a variable from 0 to 11, or, with -1, a valid value.
func TestTerms(t *testing.T) {
	for _, n := range []int{-2, 3, 12, -1 << 40, 1 << 40} {
		ruleIs(t, rule(vars(0, n), atom(0, 0, 1)), api.ErrArg)
		ruleIs(t, rule(vars(0, 1), atom(0, 0, 1), atom(1, 0, n)), api.ErrArg)
		ruleIs(t, rule(vars(0, 1), atom(0, 0, 1), not(1, n, 1)), api.ErrArg)
	}
	for _, v := range invalidValues() {
		ruleIs(t, rule(terms(vars(0)[0], is(v)), atom(0, 0, 1)), api.ErrArg)
		ruleIs(t, api.Rule{Head: vars(0, 1), Body: []api.Atom{atom(0, 0, 1), {Rel: 1, Args: terms(is(num(1)), is(v))}}}, api.ErrArg)
		ruleIs(t, api.Rule{Head: vars(0, 1), Body: []api.Atom{atom(0, 0, 1), {Rel: 1, Not: true, Args: terms(is(v), vars(1)[0])}}}, api.ErrArg)
		// A value of which it matters only later that there is no such place is not valid either.
		ruleIs(t, api.Rule{Head: vars(0, 1), Body: []api.Atom{{Rel: 0, Args: append(vars(0, 1), is(v))}}}, api.ErrArg)
	}
	ruleIs(t, rule(terms(is(num(1)), is(num(api.WordLow)))), api.OK)
}

// TestVariables: variables are those from 0 on, without a gap, each of which stands in an atom without Not.
func TestVariables(t *testing.T) {
	twelve := rule(vars(11, 0), atom(0, 0, 1), atom(0, 2, 3), atom(1, 4, 5), atom(1, 6, 7), atom(0, 8, 9), atom(0, 10, 11))
	ruleIs(t, twelve, api.OK)
	for _, x := range []struct {
		r api.Rule
		e api.Errno
	}{
		{rule(vars(1, 0), atom(0, 1, 0)), api.OK},
		{rule(vars(0, 0), atom(0, 0, 0)), api.OK},
		{rule(vars(2, 2), atom(0, 1, 2), atom(0, 0, 1)), api.OK},
		{rule(vars(1, 1), atom(0, 1, 1)), api.ErrArg},
		{rule(vars(0, 2), atom(0, 0, 2)), api.ErrArg},
		{rule(vars(0, 1), atom(0, 0, 0)), api.ErrArg},
		{rule(vars(0, 0)), api.ErrArg},
		{rule(vars(0, 0), not(0, 0, 0)), api.ErrArg},
		{rule(vars(0, 1), atom(0, 0, 1), not(1, 0, 2)), api.ErrArg},
		{rule(vars(0, 1), atom(0, 0, 1), not(1, 1, 0)), api.OK},
		{rule(vars(0, 1), not(1, 1, 0), atom(0, 0, 1)), api.OK},
		{rule(vars(0, 1), atom(0, 0, 1), atom(0, 2, 3), not(0, 3, 4)), api.ErrArg},
	} {
		ruleIs(t, x.r, x.e)
	}
	wide := func(n int) api.Prog {
		r := rule(nil, atom(0, 0, 1, 2, 3, 4, 5, 6, 7), atom(0, 8, 9, 10, 11, n, n, n, n))
		return program([]api.Type{tuples(times(8, integer)...)}, ruled(0, unit, r))
	}
	isChecked(t, wide(11), api.OK)
	isChecked(t, wide(12), api.ErrArg)
	for n, want := range []api.Errno{api.OK, api.OK, api.ErrArg} {
		r := copies()
		r.Tests = exps(whole(1), vari(n))
		ruleIs(t, r, want)
	}
	for _, bad := range invalidExps() {
		r := copies()
		r.Tests = exps(whole(1), bad)
		ruleIs(t, r, api.ErrArg)
	}
}

// TestAtoms: an atom names a relation ahead of its block, or, without Not, one of the block.
func TestAtoms(t *testing.T) {
	// The relations 3 and 4 are a block, between 2 and 5; 6 is by rules, too, but of another N.
	program := func(a api.Atom) api.Prog {
		return pairs(made(api.ViewNeg, []int{0}), ruled(7, pair, rule(vars(0, 1), atom(0, 0, 1), a)), ruled(7, pair, copies()), made(api.ViewNeg, []int{0}), ruled(7, pair, copies()))
	}
	for rel := -2; rel < 9; rel++ {
		for _, denied := range []bool{false, true} {
			a := atom(rel, 0, 1)
			a.Not = denied
			want := api.ErrArg
			if rel >= 0 && rel <= 2 || !denied && rel <= 4 && rel >= 0 {
				want = api.OK
			}
			isChecked(t, program(a), want)
		}
	}
	isChecked(t, program(atom(1<<60, 0, 1)), api.ErrArg)
	// Of the block of the second one of two views the first one is a relation, too.
	second := pairs(ruled(7, pair, copies()), ruled(7, pair, rule(vars(0, 1), atom(2, 0, 1), not(1, 0, 1))))
	isChecked(t, second, api.OK)
	second.Views[1].Rules[0].Body[1].Rel = 2
	isChecked(t, second, api.ErrArg)
	second.Views[1].N = 8
	isChecked(t, second, api.OK)
}

// TestBlocks: P6.2: a block is as long as can be, of rules of the same N, one directly behind the other.
func TestBlocks(t *testing.T) {
	n := func(l ...int) (views []api.View) {
		for _, x := range l {
			if x < 0 {
				views = append(views, made(api.ViewNeg, []int{0}))
				continue
			}
			views = append(views, ruled(x, pair))
		}
		return views
	}
	for _, x := range []struct {
		views []api.View
		want  [][]int
	}{
		{nil, nil},
		{n(-1, -1), nil},
		{n(0), [][]int{{2}}},
		{n(0, 0, 0), [][]int{{2, 3, 4}}},
		{n(0, 0, 1, 0), [][]int{{2, 3}, {4}, {5}}},
		{n(5, -1, 5, 5, -1), [][]int{{2}, {4, 5}}},
		{n(-1, 1, 1, 2, 2, -1, 2), [][]int{{3, 4}, {5, 6}, {8}}},
	} {
		areBlocks(t, pairs(x.views...), x.want)
	}
	// That the N of a view that is no block's is the same makes no difference, nor which number N is.
	views := n(-1, 1, 1)
	views[0].N, views[1].N, views[2].N = -1<<63, -1<<63, -1<<63
	areBlocks(t, pairs(views...), [][]int{{3, 4}})
	areBlocks(t, sample(), [][]int{{2, 3}})
}
