package query

import (
	"deltaworks/api"
	"deltaworks/calc"
	"deltaworks/lists"
	"deltaworks/refuse"
	"deltaworks/types"
)

// program is a program that is formed.
type program struct {
	api.Prog
	types []api.Type // the row types of its first relations, as far as they are known
}

// checked returns a program with the row types of all its relations; it is refused unless it is formed, and typed.
func checked(p api.Prog) *program {
	c := formed(p)
	refuse.Got(calc.Results(p.Funs)) // the functions may not be typed
	c.types = lists.Joined(p.Inputs)
	c.each((*program).typed)
	return c
}

// formed returns a program, which is refused unless it is formed.
func formed(p api.Prog) *program {
	refuse.Unless(calc.Check(p.Funs) != api.ErrArg, api.ErrArg)
	refuse.Unless(isFrom(len(p.Inputs), 1, api.ProgInputs) && lists.All(p.Inputs, types.IsValid), api.ErrArg)
	refuse.Unless(len(p.Views) <= api.ProgViews && len(p.Outs) <= api.ProgOuts, api.ErrArg)
	c := &program{Prog: p}
	refuse.Unless(lists.All(p.Outs, before(c.size())), api.ErrArg)
	c.each((*program).form)
	return c
}

// each does something with each view, one after the other.
func (c *program) each(do func(*program, view)) {
	for rel := len(c.Inputs); rel < c.size(); rel++ {
		do(c, c.view(rel))
	}
}

// form refuses a view unless it is formed.
func (c *program) form(v view) { refuse.Unless(v.isFormed(), api.ErrArg) }

// typed refuses the next view unless it is typed; from then on its type is known.
func (c *program) typed(v view) { c.types = append(c.types, v.kind().typ(v)) }

// size returns how many relations there are.
func (c *program) size() int { return len(c.Inputs) + len(c.Views) }

func (c *program) view(rel int) view { return view{c, c.Views[rel-len(c.Inputs)], rel} }

// typeOf returns the row type of a relation. Where it is not known yet, it is asked by a view of the same block.
func (c *program) typeOf(rel int) api.Type {
	if rel < len(c.types) {
		return c.types[rel]
	}
	return c.view(rel).T
}

// blocks returns the relations of each block.
func (c *program) blocks() [][]int {
	var all [][]int
	for rel := len(c.Inputs); rel < c.size(); {
		v := c.view(rel)
		block := v.block()
		if v.Op == api.ViewRules {
			all = append(all, block)
		}
		rel += len(block)
	}
	return all
}

// relations returns all relations for inputs, which are refused unless they are as inputs must be.
func (c *program) relations(ins []api.Zset) []api.Zset {
	c.needInputs(ins)
	rels := together(ins, make([]api.Zset, len(ins)))
	for len(rels) < c.size() {
		v := c.view(len(rels))
		rels = lists.Joined(rels, v.kind().rows(v, rels)...)
	}
	return rels
}

// isFrom reports whether a number is from one to another.
func isFrom(n, least, most int) bool { return n >= least && n <= most }

// before returns what reports whether a number is that of one of the first relations, so many.
func before(end int) func(rel int) bool {
	return func(rel int) bool { return isFrom(rel, 0, end-1) }
}
