package calc

import (
	"iter"

	"deltaworks/api"
	"deltaworks/lists"
	"deltaworks/refuse"
	"deltaworks/types"
)

// checker is what expressions are checked and evaluated with: functions, of which the first ones are formed, and the first ones of these typed.
type checker struct {
	funs   []api.Fun
	wholes []int      // of each function that is formed the whole size of its body
	types  []api.Type // of each function that is typed the type of its body
}

// formed returns a checker with functions, which are refused unless they are formed.
func formed(funs []api.Fun) *checker {
	refuse.Unless(len(funs) <= api.ProgFuns, api.ErrArg)
	c := &checker{funs: funs}
	c.each((*checker).form)
	return c
}

// each does something with each function, one after the other.
func (c *checker) each(do func(*checker, api.Fun)) {
	for _, f := range c.funs {
		do(c, f)
	}
}

// form refuses the next function unless it is formed; from then on it may be called.
func (c *checker) form(f api.Fun) {
	refuse.Unless(len(f.Params) <= api.Wide && lists.All(f.Params, types.IsValid), api.ErrArg)
	refuse.Unless(isFormed(f.Body, around{len(f.Params), c.mayCall}), api.ErrArg)
	whole := c.whole(f.Body)
	refuse.Unless(whole <= api.ExpWhole, api.ErrArg)
	c.wholes = append(c.wholes, whole)
}

// typed refuses the next function unless it is typed.
func (c *checker) typed(f api.Fun) {
	t := scope[api.Type]{c, f.Params, kind.typ}.of(f.Body)
	c.types = append(c.types, t)
}

// typeOf returns the type of an expression; it is refused, and the functions are, unless they are formed and typed.
func (c *checker) typeOf(vars []api.Type, e api.Exp) api.Type {
	refuse.Unless(len(vars) <= varsMost && lists.All(vars, types.IsValid), api.ErrArg)
	refuse.Unless(isFormed(e, around{len(vars), c.mayCall}), api.ErrArg)
	c.each((*checker).typed)
	return scope[api.Type]{c, vars, kind.typ}.of(e)
}

// valueOf returns the value of an expression that is typed.
func (c *checker) valueOf(vars []api.Value, e api.Exp) api.Value {
	return scope[api.Value]{c, vars, kind.value}.of(e)
}

func (c *checker) mayCall(n, parts int) bool {
	return n >= 0 && n < len(c.wholes) && parts == len(c.funs[n].Params)
}

// whole returns the whole size of an expression that is formed.
func (c *checker) whole(e api.Exp) int {
	size := 0
	for _, n := range nodes(e, 0) {
		size++
		if n.Op == api.ExpCall {
			size += c.wholes[n.N]
		}
	}
	return size
}

// around is what there is around an expression: variables, and functions, of which mayCall reports whether they may be called with so many parts.
type around struct {
	vars    int
	mayCall func(n, parts int) bool
}

// free is what is around an expression if it may call any function.
func free(vars int) around {
	return around{vars, func(n, _ int) bool { return n >= 0 && n < api.ProgFuns }}
}

// place is where a node of an expression stands: within how many nodes, itself too, and how many variables there are.
type place struct{ deep, vars int }

// nodes are those of an expression, each with its place. Parts come behind what they are in, so that a walk that is left at what is not formed never looks into it: an expression may hold itself.
func nodes(e api.Exp, vars int) iter.Seq2[place, api.Exp] {
	return func(yield func(place, api.Exp) bool) {
		var walk func(e api.Exp, at place) bool
		walk = func(e api.Exp, at place) bool {
			if !yield(at, e) {
				return false
			}
			for i, part := range e.L {
				if !walk(part, place{at.deep + 1, at.vars + operations()[e.Op].binds(i)}) {
					return false
				}
			}
			return true
		}
		walk(e, place{1, vars})
	}
}

// isFormed reports whether an expression is formed.
func isFormed(e api.Exp, a around) bool {
	count := 0
walk:
	for at, n := range nodes(e, a.vars) {
		switch {
		case count == api.ExpMost, at.deep > api.ExpDeep, !isRight(n, around{at.vars, a.mayCall}):
			count = 0
			break walk
		}
		count++
	}
	return count > 0
}

// isRight reports whether a node is formed, as far as its parts do not matter.
func isRight(e api.Exp, a around) bool {
	ops := operations()
	if e.Op < 0 || e.Op >= len(ops) {
		return false
	}
	op := ops[e.Op]
	return len(e.L) >= op.least && len(e.L) <= op.most && op.right(e, a)
}
