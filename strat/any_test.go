package strat_test

import (
	"math/rand"

	"deltaworks/api"
)

// anyRules returns how many relations there are, at most so many, and loose rules of them. Half of the rules are in order, but for a few atoms: relations are of groups, and use those of their own group and of groups that are lower, and deny those of the latter.
func anyRules(r *rand.Rand, most int) (rels int, l []api.StratRule) {
	rels = 1 + r.Intn(most)
	group, groups := make([]int, rels), 1+rels/(1+r.Intn(12))
	for i := range group {
		group[i] = r.Intn(groups)
	}
	free, often, few := r.Intn(2) == 0, 2+r.Intn(12), 1+r.Intn(api.AtomMost)
	for range r.Intn(min(3*rels, api.StratRules) + 1) {
		x := api.StratRule{Head: r.Intn(rels)}
		for range r.Intn(few + 1) {
			a := api.Atom{Rel: r.Intn(rels), Not: r.Intn(often) == 0}
			apart := group[x.Head] - group[a.Rel]
			switch {
			case free, r.Intn(200) == 0:
				a.Not = a.Not && (a.Rel != x.Head || r.Intn(20) == 0)
			case apart < 0:
				continue
			case apart == 0:
				a.Not = false
			}
			x.Rule.Body = append(x.Rule.Body, a)
		}
		l = append(l, x)
	}
	return rels, l
}
