package calc

import (
	"deltaworks/api"
	"deltaworks/fresh"
)

// named is what a node names by its number: of ExpVar the variable N.
type named struct{ op, n int }

// read returns which variables from outside a formed expression reads.
func read(e api.Exp, vars int) []int {
	all := map[named]bool{}
	for _, n := range nodes(e, vars) {
		all[named{n.Op, n.N}] = true
	}
	var l []int
	for n := range vars {
		if all[named{api.ExpVar, n}] {
			l = append(l, n)
		}
	}
	return l
}

// put returns a formed expression with those of l, of which each has so many variables from outside, in the place of its variables from outside.
func put(e api.Exp, l []api.Exp, vars int) api.Exp {
	// replaced returns e with what of makes of each variable in its place, which stands within so many variables that are bound.
	var replaced func(e api.Exp, bound int, of func(n, bound int) api.Exp) api.Exp
	replaced = func(e api.Exp, bound int, of func(n, bound int) api.Exp) api.Exp {
		if e.Op == api.ExpVar {
			return of(e.N, bound)
		}
		made := fresh.Node(e)
		for i, part := range made.L {
			made.L[i] = replaced(part, bound+operations()[e.Op].binds(i), of)
		}
		return made
	}
	return replaced(e, 0, func(n, bound int) api.Exp {
		if n >= len(l) {
			return variableOf(n - len(l) + vars)
		}
		return replaced(l[n], 0, func(n, _ int) api.Exp {
			if n >= vars {
				n += bound
			}
			return variableOf(n)
		})
	})
}

func variableOf(n int) api.Exp { return api.Exp{Op: api.ExpVar, N: n} }
