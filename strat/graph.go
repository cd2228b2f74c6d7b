package strat

import (
	"iter"

	"deltaworks/api"
	"deltaworks/refuse"
)

// graph is which relations, of so many, use which ones.
type graph struct {
	rels int
	ties map[use]tie
}

// read returns what loose rules say of so many relations; both are refused unless they are as they must be.
func read(rels int, rules []api.StratRule) *graph {
	refuse.Unless(rels >= 1 && rels <= api.StratRels, api.ErrArg)
	refuse.Unless(len(rules) <= api.StratRules, api.ErrLong)
	g := &graph{rels, map[use]tie{}}
	for _, r := range rules {
		g.take(r)
	}
	return g
}

// take ties the Head of a rule to the relations of its atoms.
func (g *graph) take(r api.StratRule) {
	refuse.Unless(len(r.Rule.Body) <= api.AtomMost, api.ErrLong)
	refuse.Unless(g.has(r.Head), api.ErrRange)
	for _, a := range r.Rule.Body {
		refuse.Unless(g.has(a.Rel), api.ErrRange)
		g.tie(atom{use{r.Head, a.Rel}, a.Not})
	}
}

// has reports whether there is such a relation.
func (g *graph) has(rel int) bool { return rel >= 0 && rel < g.rels }

// question is what is asked of an atom, and the tie that there is if it is so.
type question struct {
	is  func(atom) bool
	tie func(use) tie
}

// tie asks an atom for the tie of its relations. What is denied once stays so, whatever other atoms say.
func (g *graph) tie(a atom) {
	for _, q := range [...]question{
		{atom.denies, use.denied},
		{g.isNew, use.plain},
	} {
		if q.is(a) {
			g.ties[a.use] = q.tie(a.use)
		}
	}
}

// isNew reports whether the relations of an atom are not tied yet.
func (g *graph) isNew(a atom) bool {
	_, tied := g.ties[a.use]
	return !tied
}

// used are the relations that some use, of each of these rising, each with its tie.
func (g *graph) used(by ...int) iter.Seq2[int, tie] {
	return g.tied(by, func(one, rel int) use { return use{one, rel} })
}

// users are the relations that use one, rising, each with its tie.
func (g *graph) users(of int) iter.Seq2[int, tie] {
	return g.tied([]int{of}, func(one, rel int) use { return use{rel, one} })
}

// tied are the relations that make a use with some.
func (g *graph) tied(some []int, with func(one, rel int) use) iter.Seq2[int, tie] {
	return func(yield func(int, tie) bool) {
		for _, one := range some {
			for rel := range g.rels {
				if t, is := g.ties[with(one, rel)]; is && !yield(rel, t) {
					return
				}
			}
		}
	}
}
