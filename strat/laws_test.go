package strat_test

import (
	"math/rand"
	"reflect"
	"slices"
	"testing"

	"deltaworks/api"
	"deltaworks/strat"
)

// TestInOrderOrReason: P8.7: either there are blocks, as they must be, or there is a cycle of denial.
func TestInOrderOrReason(t *testing.T) {
	for seed := range int64(5000) {
		r := rand.New(rand.NewSource(seed))
		rels, rules := anyRules(r, 20)
		m := modelOf(rels, rules)
		x := all(rels, rules)
		switch {
		case x.Errs[0] == api.OK && x.Errs[1] == api.ErrNone && x.Errs[2] == api.OK:
			areBlocks(t, m, x)
		case x.Errs[0] == api.ErrClash && x.Errs[1] == api.OK && x.Errs[2] == api.ErrClash:
			if !m.isCycle(x.Reason) {
				t.Fatal(told(rules), x)
			}
		default:
			t.Fatal(told(rules), x)
		}
	}
}

// areBlocks fails unless each relation is just once in blocks, each of which is behind all that it uses, denies none of its own, and is of one level.
func areBlocks(t *testing.T, m model, x results) {
	t.Helper()
	block := make([]int, m.rels)
	for n, l := range x.Blocks {
		for _, a := range l {
			block[a] = n
		}
	}
	order := slices.Concat(x.Blocks...)
	slices.Sort(order)
	if !slices.Equal(order, ints(0, m.rels)) {
		t.Fatal(x)
	}
	for a := range m.rels {
		for b := range m.rels {
			if m.uses[a][b] && block[b] > block[a] || m.denies[a][b] && block[a] == block[b] || block[a] == block[b] && x.Levels[a] != x.Levels[b] {
				t.Fatal(a, b, x)
			}
		}
	}
}

// renamed returns rules in another order, of relations with other numbers.
func renamed(r *rand.Rand, rules []api.StratRule, names []int) (l []api.StratRule) {
	for _, i := range r.Perm(len(rules)) {
		x := rules[i]
		x.Head = names[x.Head]
		x.Rule.Body = slices.Clone(x.Rule.Body)
		for k := range x.Rule.Body {
			x.Rule.Body[k].Rel = names[x.Rule.Body[k].Rel]
		}
		l = append(l, x)
	}
	return l
}

// of returns the names of relations, rising.
func of(names, rels []int) (l []int) {
	for _, a := range rels {
		l = append(l, names[a])
	}
	slices.Sort(l)
	return l
}

// TestOtherOrder: P8.7: rules in another order make no difference, and relations with other numbers none but these numbers, and which block comes first where either could, and which of the shortest cycles is told.
func TestOtherOrder(t *testing.T) {
	for seed := range int64(3000) {
		r := rand.New(rand.NewSource(seed))
		rels, rules := anyRules(r, 20)
		x := all(rels, rules)
		are(t, rels, renamed(r, rules, ints(0, rels)), x)
		names := r.Perm(rels)
		other := renamed(r, rules, names)
		y := all(rels, other)
		for _, block := range x.Blocks {
			if !slices.ContainsFunc(y.Blocks, func(l []int) bool { return slices.Equal(l, of(names, block)) }) {
				t.Fatal(told(rules), x, names, y)
			}
		}
		for a, level := range x.Levels {
			if y.Levels[names[a]] != level {
				t.Fatal(told(rules), x, names, y)
			}
		}
		if len(x.Blocks) != len(y.Blocks) || len(x.Reason) != len(y.Reason) || x.Errs != y.Errs {
			t.Fatal(told(rules), x, names, y)
		}
		from := r.Perm(rels)[:1]
		l, _ := strat.Reach(rels, rules, from)
		reaches(t, rels, other, of(names, from), of(names, l), api.OK)
	}
}

// TestWords: what is told of rules is read as the same ones.
func TestWords(t *testing.T) {
	if l := loose(rulesS); len(l) != 5 || !reflect.DeepEqual(loose(told(l)), l) {
		t.Error(told(l))
	}
}
