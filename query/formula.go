package query

import (
	"deltaworks/api"
	"deltaworks/calc"
	"deltaworks/refuse"
)

// formula is an expression that is asked for its type and its values: with the types of its variables, and with functions.
type formula struct {
	funs []api.Fun
	vars []api.Type
	exp  api.Exp
}

// isExp reports whether an expression with so many variables is formed, of which their types are no matter. Unless it would be with some functions, it may hold itself.
func (c *program) isExp(e api.Exp, vars int) bool {
	if _, why := calc.Uses(e, vars); why != api.OK {
		return false
	}
	_, why := calc.TypeOf(called(c.Funs, e), make([]api.Type, vars), e)
	return why != api.ErrArg
}

// formula returns an expression that is formed with the types of its variables.
func (c *program) formula(e api.Exp, vars []api.Type) formula {
	return formula{called(c.Funs, e), vars, e}
}

// called returns functions that are formed, of which those that an expression does not come to are left out, or empty: calc checks at each call all that it is given.
func called(funs []api.Fun, e api.Exp) []api.Fun {
	var is [api.ProgFuns]bool
	var call func(e api.Exp)
	call = func(e api.Exp) {
		if e.Op == api.ExpCall && e.N < len(funs) && !is[e.N] {
			is[e.N] = true
			call(funs[e.N].Body)
		}
		for _, part := range e.L {
			call(part)
		}
	}
	call(e)
	var made []api.Fun
	for n, f := range funs {
		if is[n] {
			empty := make([]api.Fun, n-len(made))
			for i := range empty {
				empty[i].Body.Op = api.ExpInt
			}
			made = append(append(made, empty...), f)
		}
	}
	return made
}

func (f formula) typ() api.Type { return refuse.Got(calc.TypeOf(f.funs, f.vars, f.exp)) }

// of returns the value of an expression that is typed.
func (f formula) of(values ...api.Value) api.Value {
	return refuse.Got(calc.Eval(f.funs, f.vars, values, f.exp))
}
