package query

import (
	"math/bits"

	"deltaworks/api"
	"deltaworks/lists"
	"deltaworks/refuse"
	"deltaworks/types"
	"deltaworks/value"
)

type rules struct{ plain }

func (rules) formed(v view) bool {
	return types.IsValid(v.T) && v.T.Kind == api.TypeTuple && len(v.Rules) <= api.RuleMost && lists.All(v.Rules, v.isRule)
}

func (rules) typ(v view) api.Type {
	for _, r := range v.Rules {
		v.typesOf(r)
	}
	return v.T
}

// isRule reports whether a rule of a view, whose row type is a tuple, is formed.
func (v view) isRule(r api.Rule) bool {
	return len(r.Head) == len(v.T.L) && len(r.Body) <= api.AtomMost && len(r.Tests) <= api.TestMost &&
		lists.All(r.Head, isTerm) && lists.All(r.Body, v.isAtom) && v.isBound(r)
}

func isTerm(t api.Term) bool {
	return isFrom(t.Var, 0, api.VarMost-1) || t.Var == -1 && value.Check(t.Value) == api.OK
}

// isAtom reports whether an atom is formed. The relation that it names is ahead of the block, or, without Not, in it.
func (v view) isAtom(a api.Atom) bool {
	block := v.block()
	end := block[0]
	if !a.Not {
		end += len(block)
	}
	return isFrom(a.Rel, 0, end-1) && lists.All(a.Args, isTerm)
}

// isBound reports whether all terms and tests of a rule have no other variables than those of its atoms without Not, whose numbers are the first ones.
func (v view) isBound(r api.Rule) bool {
	vars := bound(r)
	is := func(t api.Term) bool { return t.Var < vars }
	return lists.All(r.Head, is) &&
		lists.All(r.Body, func(a api.Atom) bool { return lists.All(a.Args, is) }) &&
		lists.All(r.Tests, func(e api.Exp) bool { return v.isExp(e, vars) })
}

// bound returns how many variables the atoms without Not of a rule have.
func bound(r api.Rule) int {
	vars := 0
	for _, a := range r.Body {
		if !a.Not {
			vars |= reads(a.Args)
		}
	}
	return bits.OnesCount(uint(vars))
}

// reads returns which variables terms have, as bits.
func reads(l []api.Term) int {
	vars := 0
	for _, t := range l {
		if t.Var >= 0 {
			vars |= 1 << t.Var
		}
	}
	return vars
}

// typesOf returns the types of the variables of a rule that is formed, which is refused unless it is typed.
func (v view) typesOf(r api.Rule) []api.Type {
	of := make([][]api.Type, bound(r))
	fit := func(terms []api.Term, t api.Type) {
		refuse.Unless(t.Kind == api.TypeTuple && len(t.L) == len(terms), api.ErrType)
		for i, x := range terms {
			if x.Var >= 0 {
				of[x.Var] = append(of[x.Var], t.L[i])
				continue
			}
			refuse.Unless(value.Is(x.Value, t.L[i]), api.ErrType)
		}
	}
	fit(r.Head, v.T)
	for _, a := range r.Body {
		fit(a.Args, v.typeOf(a.Rel))
	}
	vars := lists.Changed(of, func(l []api.Type) api.Type { return types.NeedOne(l...) })
	for _, e := range r.Tests {
		types.NeedOne(v.formula(e, vars).typ(), types.Word())
	}
	return vars
}
