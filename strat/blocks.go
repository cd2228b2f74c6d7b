package strat

import (
	"slices"

	"deltaworks/api"
	"deltaworks/lists"
	"deltaworks/refuse"
)

// blocks returns all blocks, the relations of each one rising, that with the least relation first.
func (g *graph) blocks() [][]int {
	const done = api.StratRels + 1
	var far [api.StratRels]int // how far each relation was looked at: 0 not at all; done if its block is known; otherwise it leads to the open one in this place, from 1 on
	var open []int             // the relations that were come to, as long as their blocks are not known
	var all [][]int
	var look func(rel int)
	look = func(rel int) {
		open = append(open, rel)
		place := len(open)
		far[rel] = place
		for to := range g.used(rel) {
			if far[to] == 0 {
				look(to)
			}
			far[rel] = min(far[rel], far[to])
		}
		if far[rel] == place { // whatever is open from here on leads back to here, and no further
			block := lists.Joined(open[place-1:])
			open = open[:place-1]
			for _, rel := range block {
				far[rel] = done
			}
			slices.Sort(block)
			all = append(all, block)
		}
	}
	for rel := range g.rels {
		if far[rel] == 0 {
			look(rel)
		}
	}
	slices.SortFunc(all, slices.Compare)
	return all
}

// inOrder returns the blocks in their order; rules that are not in order are refused.
func (g *graph) inOrder() [][]int {
	left := g.blocks()
	for _, block := range left {
		for to, t := range g.used(block...) {
			refuse.Unless(!t.parts() || !slices.Contains(block, to), api.ErrClash)
		}
	}
	var made [][]int
	var placed []int
	for len(left) > 0 { // one of them can follow: blocks do not lead to each other in a ring
		next := slices.IndexFunc(left, func(block []int) bool { return g.canFollow(block, placed) })
		made = append(made, left[next])
		placed = append(placed, left[next]...)
		left = slices.Delete(left, next, next+1)
	}
	return made
}

// canFollow reports whether a block uses no relations but its own, and those that are placed.
func (g *graph) canFollow(block, placed []int) bool {
	for to := range g.used(block...) {
		if !slices.Contains(placed, to) && !slices.Contains(block, to) {
			return false
		}
	}
	return true
}

// levels returns the level of each relation: it is the same for all of a block.
func (g *graph) levels() []int {
	levels := make([]int, g.rels)
	for _, block := range g.inOrder() {
		level := 0
		for to, t := range g.used(block...) {
			level = max(level, t.above(levels[to]))
		}
		for _, rel := range block {
			levels[rel] = level
		}
	}
	return levels
}
