package query_test

import (
	"slices"

	"deltaworks/api"
	"deltaworks/calc"
	"deltaworks/value"
)

// model tells of a program what the chapter says, line by line.
type model struct{ api.Prog }

func (m model) rels() int { return len(m.Inputs) + len(m.Views) }

func (m model) view(rel int) api.View { return m.Views[rel-len(m.Inputs)] }

// beside reports whether two relations next to each other are views of one block.
func (m model) beside(rel int) bool {
	if rel < len(m.Inputs) || rel+1 >= m.rels() {
		return false
	}
	a, b := m.view(rel), m.view(rel+1)
	return a.Op == api.ViewRules && b.Op == api.ViewRules && a.N == b.N
}

// block returns the first relation of the block of a view, and the one behind its last one.
func (m model) block(rel int) (first, end int) {
	for first = rel; m.beside(first - 1); first-- {
	}
	for end = rel; m.beside(end); end++ {
	}
	return first, end + 1
}

// formed reports whether the program is formed.
func (m model) formed() bool {
	if calc.Check(m.Funs) == api.ErrArg || len(m.Inputs) < 1 || len(m.Inputs) > 8 || len(m.Views) > 40 || len(m.Outs) > 8 {
		return false
	}
	for _, t := range m.Inputs {
		if value.Type(t) != api.OK {
			return false
		}
	}
	for _, rel := range m.Outs {
		if rel < 0 || rel >= m.rels() {
			return false
		}
	}
	for rel := len(m.Inputs); rel < m.rels(); rel++ {
		if !m.formedView(rel, m.view(rel)) {
			return false
		}
	}
	return true
}

// exps reports whether a view has, of so many variables each, these expressions.
func (m model) exps(v api.View, vars ...int) bool {
	if len(v.F) != len(vars) {
		return false
	}
	for i, n := range vars {
		if !m.exp(v.F[i], n) {
			return false
		}
	}
	return true
}

func (m model) exp(e api.Exp, vars int) bool {
	_, err := calc.TypeOf(m.Funs, times(vars, letters), e)
	return err != api.ErrArg
}

func (m model) formedView(rel int, v api.View) bool {
	from := func(least, most int) bool {
		for _, n := range v.From {
			if n < 0 || n >= rel {
				return false
			}
		}
		return len(v.From) >= least && len(v.From) <= most
	}
	switch v.Op {
	case api.ViewMap:
		return from(1, 1) && len(v.F) >= 1 && len(v.F) <= 4 && m.exps(v, times(len(v.F), 1)...)
	case api.ViewKeep:
		return from(1, 1) && m.exps(v, 1)
	case api.ViewSum:
		return from(1, 6)
	case api.ViewNeg, api.ViewOnce:
		return from(1, 1)
	case api.ViewJoin:
		return from(2, 2) && m.exps(v, 1, 1, 2)
	case api.ViewFold:
		return from(1, 1) && (v.N == api.FoldCount && m.exps(v, 1) || v.N >= 1 && v.N <= 3 && m.exps(v, 1, 1))
	case api.ViewRules:
		if value.Type(v.T) != api.OK || v.T.Kind != api.TypeTuple || len(v.Rules) > 8 {
			return false
		}
		for _, r := range v.Rules {
			if !m.formedRule(rel, v, r) {
				return false
			}
		}
		return true
	}
	return false
}

func (m model) formedRule(rel int, v api.View, r api.Rule) bool {
	if len(r.Head) != len(v.T.L) || len(r.Body) > 6 || len(r.Tests) > 4 {
		return false
	}
	all, standing := map[int]bool{}, map[int]bool{}
	term := func(x api.Term, stands bool) bool {
		if x.Var == -1 {
			return value.Check(x.Value) == api.OK
		}
		all[x.Var] = true
		standing[x.Var] = standing[x.Var] || stands
		return x.Var >= 0 && x.Var <= 11
	}
	for _, x := range r.Head {
		if !term(x, false) {
			return false
		}
	}
	first, end := m.block(rel)
	for _, a := range r.Body {
		if a.Rel < 0 || a.Rel >= end || a.Not && a.Rel >= first {
			return false
		}
		for _, x := range a.Args {
			if !term(x, !a.Not) {
				return false
			}
		}
	}
	for n := range len(all) {
		if !standing[n] {
			return false
		}
	}
	for _, e := range r.Tests {
		if !m.exp(e, len(all)) {
			return false
		}
	}
	return true
}

// typed returns the row types of all relations of a program that is formed, if it has types.
func (m model) typed() (types []api.Type, is bool) {
	if calc.Check(m.Funs) != api.OK {
		return nil, false
	}
	types = slices.Clone(m.Inputs)
	for _, v := range m.Views {
		types = append(types, v.T) // of views that are no rules it is found below
	}
	for rel := len(m.Inputs); rel < m.rels(); rel++ {
		v := m.view(rel)
		if v.Op != api.ViewRules {
			t, is := m.made(v, types)
			if !is || value.Type(t) != api.OK {
				return nil, false
			}
			types[rel] = t
		}
	}
	for rel := len(m.Inputs); rel < m.rels(); rel++ {
		if v := m.view(rel); v.Op == api.ViewRules {
			for _, r := range v.Rules {
				if !m.typedRule(v, r, types) {
					return nil, false
				}
			}
		}
	}
	return types, true
}

// made returns the row type of a view that is made of others by no rules.
func (m model) made(v api.View, types []api.Type) (t api.Type, is bool) {
	is = true
	of := func(i int, from ...int) api.Type {
		var vars []api.Type
		for _, n := range from {
			vars = append(vars, types[v.From[n]])
		}
		t, e := calc.TypeOf(m.Funs, vars, v.F[i])
		is = is && e == api.OK
		return t
	}
	same := func(a, b api.Type) api.Type {
		is = is && sameType(a, b)
		return a
	}
	first := types[v.From[0]]
	switch v.Op {
	case api.ViewMap:
		for i := range v.F {
			t = same(of(i, 0), of(0, 0))
		}
		return t, is
	case api.ViewKeep:
		same(of(0, 0), integer)
	case api.ViewSum:
		for _, rel := range v.From {
			same(types[rel], first)
		}
	case api.ViewJoin:
		same(of(0, 0), of(1, 1))
		return of(2, 0, 1), is
	case api.ViewFold:
		if v.N != api.FoldCount {
			same(of(1, 0), integer)
		}
		return tuples(of(0, 0), integer), is
	}
	return first, is
}

// typedRule reports whether a rule has types; varTypes returns those of its variables.
func (m model) typedRule(v api.View, r api.Rule, types []api.Type) bool {
	vars, is := m.varTypes(v, r, types)
	for _, e := range r.Tests {
		if !is {
			return false
		}
		t, err := calc.TypeOf(m.Funs, vars, e)
		is = err == api.OK && sameType(t, integer)
	}
	return is
}

func (m model) varTypes(v api.View, r api.Rule, types []api.Type) (vars []api.Type, is bool) {
	found := map[int]api.Type{}
	is = true
	place := func(l []api.Term, t api.Type) {
		if t.Kind != api.TypeTuple || len(t.L) != len(l) {
			is = false
			return
		}
		for i, x := range l {
			if x.Var == -1 {
				is = is && value.Is(x.Value, t.L[i])
				continue
			}
			if old, there := found[x.Var]; there {
				is = is && sameType(old, t.L[i])
			}
			found[x.Var] = t.L[i]
		}
	}
	place(r.Head, v.T)
	for _, a := range r.Body {
		place(a.Args, types[a.Rel])
	}
	for n := range len(found) {
		vars = append(vars, found[n])
	}
	return vars, is
}

// verdict returns the row types of all relations, or the error of the program.
func (m model) verdict() ([]api.Type, api.Errno) {
	if !m.formed() {
		return nil, api.ErrArg
	}
	types, is := m.typed()
	if !is {
		return nil, api.ErrType
	}
	return types, api.OK
}
