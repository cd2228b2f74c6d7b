package strat

import (
	"slices"

	"deltaworks/api"
	"deltaworks/fresh"
	"deltaworks/lists"
	"deltaworks/query"
	"deltaworks/refuse"
	"deltaworks/types"
)

// program is a program, and the number in it of each relation.
type program struct {
	api.Prog
	places []int
}

// programOf returns the program of loose rules for inputs and other relations of these types. Nothing is copied before the program is checked: what is not valid may hold itself.
func programOf(inputs, others []api.Type, rules []api.StratRule) program {
	g := read(len(inputs)+len(others), rules)
	refuse.Unless(lists.All(rules, func(r api.StratRule) bool { return r.Head >= len(inputs) }), api.ErrRange)
	blocks := g.inOrder()
	refuse.Unless(len(inputs) <= api.ProgInputs && len(others) <= api.ProgViews, api.ErrLong)
	p := program{api.Prog{Inputs: inputs}, placesOf(blocks)}
	for n, block := range blocks[len(inputs):] { // inputs use nothing, and are the first ones
		for _, rel := range block {
			p.Views = append(p.Views, p.view(n, others[rel-len(inputs)], rulesFor(rel, rules)))
		}
	}
	e := query.Check(p.Prog)
	refuse.Unless(e == api.OK, e)
	p.Inputs, p.Views = lists.Changed(inputs, types.New), lists.Changed(p.Views, newView)
	return p
}

// placesOf returns of each relation in which place of its block, one block behind the other, it is.
func placesOf(blocks [][]int) []int {
	order := slices.Concat(blocks...)
	places := make([]int, len(order))
	for place, rel := range order {
		places[rel] = place
	}
	return places
}

// rulesFor returns the rules of a relation.
func rulesFor(rel int, rules []api.StratRule) []api.Rule {
	var made []api.Rule
	for _, r := range rules {
		if r.Head == rel {
			made = append(made, r.Rule)
		}
	}
	return made
}

// view returns a view of a block with these rules.
func (p program) view(block int, t api.Type, rules []api.Rule) api.View {
	refuse.Unless(len(rules) <= api.RuleMost, api.ErrLong)
	return api.View{Op: api.ViewRules, N: block, T: t, Rules: lists.Changed(rules, p.rule)}
}

// rule returns a rule with its relations by their numbers in the program.
func (p program) rule(r api.Rule) api.Rule {
	r.Body = lists.Changed(r.Body, func(a api.Atom) api.Atom {
		a.Rel = p.places[a.Rel]
		return a
	})
	return r
}

// newView returns a copy of a view.
func newView(v api.View) api.View {
	v.T, v.Rules = types.New(v.T), lists.Changed(v.Rules, fresh.Rule)
	return v
}
