package strat_test

import (
	"math/rand"
	"slices"

	"deltaworks/api"
)

// maker makes what Prog is given: relations are of groups, and use those of their own group and of groups that are lower, and deny those of the latter.
type maker struct {
	r     *rand.Rand
	types []api.Type // of all relations
	group []int
}

// anyTimes makes something of what Prog does not refuse, so many times.
func anyTimes(seed int64, n int, do func(r *rand.Rand, x given)) {
	for i := range n {
		r := rand.New(rand.NewSource(seed*1000003 + int64(i)))
		do(r, anyGiven(r))
	}
}

func pick[T any](r *rand.Rand, l ...T) T { return l[r.Intn(len(l))] }

func anyGiven(r *rand.Rand) given {
	m := maker{r: r}
	var x given
	for range 1 + r.Intn(4) {
		x.Inputs = append(x.Inputs, pick(r, pair, pair, single, named, mixed, integer))
		m.group = append(m.group, -1)
	}
	groups := 1 + r.Intn(4)
	for range r.Intn(9) {
		x.Others = append(x.Others, pick(r, pair, pair, single, named, mixed, tuples()))
		m.group = append(m.group, r.Intn(groups))
	}
	m.types = slices.Concat(x.Inputs, x.Others)
	for range r.Intn(3*len(x.Others) + 1) {
		rel := len(x.Inputs) + r.Intn(len(x.Others))
		x.Rules = append(x.Rules, api.StratRule{Head: rel, Rule: m.anyRule(rel)})
	}
	for i := range x.Others { // relations of a group use each other more often than not
		rel, next := len(x.Inputs)+i, len(x.Inputs)+r.Intn(len(x.Others))
		if m.group[rel] == m.group[next] {
			l := m.anyAtoms(nil, next)
			x.Rules = append(x.Rules, api.StratRule{Head: rel, Rule: m.ruleOf(rel, l)})
		}
	}
	return x
}

// scope is which variables there are: of which types.
type scope []api.Type

// term returns a term of a type: a variable that there is, or, with fresh, a new one, or a value.
func (m maker) term(s *scope, t api.Type, fresh bool) api.Term {
	var can []int
	for n, u := range *s {
		if sameType(t, u) {
			can = append(can, n)
		}
	}
	switch {
	case len(can) > 0 && m.r.Intn(3) > 0:
		return api.Term{Var: pick(m.r, can...)}
	case fresh && len(*s) < api.VarMost && m.r.Intn(5) > 0:
		*s = append(*s, t)
		return api.Term{Var: len(*s) - 1}
	}
	return is(m.anyValue(t))
}

func (m maker) terms(s *scope, l []api.Type, fresh bool) (out []api.Term) {
	for _, t := range l {
		out = append(out, m.term(s, t, fresh))
	}
	return out
}

func sameType(a, b api.Type) bool { return a.Kind == b.Kind && slices.EqualFunc(a.L, b.L, sameType) }

func (m maker) anyValue(t api.Type) api.Value {
	switch t.Kind {
	case api.TypeInt:
		return num(m.r.Intn(3))
	case api.TypeText:
		return str(pick(m.r, "", "a", "b"))
	case api.TypeSum:
		n := m.r.Intn(len(t.L))
		return tag(n, m.anyValue(t.L[n]))
	}
	v := tup()
	for _, part := range t.L {
		v.L = append(v.L, m.anyValue(part))
	}
	return v
}

// bodied is what there is of a rule: its body, and its variables.
type bodied struct {
	body []api.Atom
	vars scope
}

// anyAtoms puts atoms without Not, of these relations, behind others.
func (m maker) anyAtoms(l *bodied, rels ...int) *bodied {
	if l == nil {
		l = &bodied{}
	}
	for _, rel := range rels {
		l.body = append(l.body, api.Atom{Rel: rel, Args: m.terms(&l.vars, m.types[rel].L, true)})
	}
	return l
}

// anyRule returns a rule of a relation.
func (m maker) anyRule(rel int) api.Rule {
	var lower, others []int
	for a, t := range m.types {
		if t.Kind != api.TypeTuple {
			continue
		}
		if m.group[a] < m.group[rel] {
			lower = append(lower, a)
		}
		if m.group[a] <= m.group[rel] {
			others = append(others, a)
		}
	}
	l := &bodied{}
	for range m.r.Intn(4) {
		l = m.anyAtoms(l, pick(m.r, others...))
	}
	if len(lower) > 0 {
		for range m.r.Intn(3) {
			denied := pick(m.r, lower...)
			a := api.Atom{Rel: denied, Not: true, Args: m.terms(&l.vars, m.types[denied].L, false)}
			at := m.r.Intn(len(l.body) + 1)
			l.body = slices.Insert(l.body, at, a)
		}
	}
	return m.ruleOf(rel, l)
}

// ruleOf returns a rule of a relation with a body.
func (m maker) ruleOf(rel int, l *bodied) api.Rule {
	made := rule(m.terms(&l.vars, m.types[rel].L, false), l.body...)
	for n, t := range l.vars {
		if m.r.Intn(4) > 0 || len(made.Tests) == api.TestMost {
			continue
		}
		test := same(vari(n), vari(n))
		if t.Kind == api.TypeSum {
			test = same(vari(n), tagged(1, exp(api.ExpTuple, 0, whole(1), whole(m.r.Intn(3))), t.L...))
		}
		made.Tests = append(made.Tests, test)
	}
	return made
}

// anyIns returns inputs, or a change of them.
func (m maker) anyIns(x given) (l []api.Zset) {
	for _, t := range x.Inputs {
		var z []api.Item
		for range m.r.Intn(4) {
			z = append(z, api.Item{Row: m.anyValue(t), N: 1 + m.r.Intn(2)})
		}
		l = append(l, gathered(z))
	}
	return l
}
