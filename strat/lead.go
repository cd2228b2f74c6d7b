package strat

import (
	"deltaworks/api"
	"deltaworks/lists"
)

// never is how far it is from a relation to one to which it does not lead: further than to any other one.
const never = api.StratRels

// steps returns of each relation how many uses, one behind the other, lead from it to one of some relations, at least.
func (g *graph) steps(to ...int) [api.StratRels]int {
	var steps [api.StratRels]int
	for rel := range steps {
		steps[rel] = never
	}
	for _, rel := range to {
		steps[rel] = 0
	}
	for n := range g.rels {
		for rel := range g.rels {
			if steps[rel] != n {
				continue
			}
			for from := range g.users(rel) {
				steps[from] = min(steps[from], n+1)
			}
		}
	}
	return steps
}

// leading returns some relations, and all that lead to one of them, rising.
func (g *graph) leading(to ...int) []int {
	var made []int
	for rel, n := range g.steps(to...) {
		if n < never {
			made = append(made, rel)
		}
	}
	return made
}

// reason returns the shortest cycle of denial, the least one of those; nil if there is none.
func (g *graph) reason() []int {
	var cycle []int
	least := never
	for first := range g.rels {
		back := g.steps(first)
		for second, t := range g.used(first) {
			if t.parts() && back[second] < least {
				least = back[second]
				cycle = lists.Joined([]int{first}, g.way(second, back)...)
			}
		}
	}
	return cycle
}

// way returns the least shortest way from a relation to the one to which there are so many steps, without that one.
func (g *graph) way(from int, steps [api.StratRels]int) []int {
	var made []int
	for steps[from] > 0 {
		made = append(made, from)
	nearer:
		for to := range g.used(from) {
			if steps[to] < steps[from] {
				from = to
				break nearer
			}
		}
	}
	return made
}
