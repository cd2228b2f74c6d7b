package query

import (
	"math"

	"deltaworks/api"
	"deltaworks/calc"
	"deltaworks/lists"
	"deltaworks/refuse"
)

// clause is a rule whose values are numbered: for which relation it is, and which variables (as bits) its head and its tests read.
type clause struct {
	rel   int
	head  []term
	body  []atom
	tests []formula
	reads int
}

// atom is an atom of a clause, and which variables it has (as bits).
type atom struct {
	rel   int
	not   bool
	args  []term
	reads int
}

// term is a variable, or, if that is -1, the value with a number.
type term struct{ variable, number int }

// clause returns a rule of a view with its values numbered.
func (v view) clause(r api.Rule, values *groups[struct{}]) clause {
	vars := v.typesOf(r)
	terms := func(l []api.Term) []term {
		return lists.Changed(l, func(t api.Term) term {
			if t.Var >= 0 {
				return term{variable: t.Var}
			}
			return term{-1, values.place(t.Value)}
		})
	}
	c := clause{rel: v.rel, head: terms(r.Head), reads: reads(r.Head)}
	for _, a := range r.Body {
		c.body = append(c.body, atom{a.Rel, a.Not, terms(a.Args), reads(a.Args)})
	}
	for _, e := range r.Tests {
		c.tests = append(c.tests, v.formula(e, vars))
		for _, n := range refuse.Got(calc.Uses(e, len(vars))) {
			c.reads |= 1 << n
		}
	}
	return c
}

// all returns all atoms of a clause, as bits.
func (c clause) all() int { return 1<<len(c.body) - 1 }

// names reports whether an atom of a clause names a relation from one on.
func (c clause) names(first int) bool {
	return !lists.All(c.body, func(a atom) bool { return a.rel < first })
}

// needs returns which variables are read once some atoms (as bits) are left.
func (c clause) needs(rest int) int {
	vars := c.reads
	for i, a := range c.body {
		if rest>>i&1 == 1 {
			vars |= a.reads
		}
	}
	return vars
}

// next returns which of the atoms that are left comes next: the one in which the fewest terms are not known yet, and of such the one in which the most are. One with Not does not come before all of it is known.
func (c clause) next(rest int, b binding) int {
	next, least := 0, math.MaxInt
	for i, a := range c.body {
		if rest>>i&1 == 0 {
			continue
		}
		unknown, known := b.count(a.args)
		if cost := unknown*api.Wide - known; cost < least && (unknown == 0 || !a.not) {
			next, least = i, cost
		}
	}
	return next
}
