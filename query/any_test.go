package query_test

import (
	"math/rand"
	"slices"

	"deltaworks/api"
)

// maker makes a program, a view or a block at a time: of its relations types are known.
type maker struct {
	r     *rand.Rand
	p     api.Prog
	types []api.Type
	funs  []api.Type // what functions make
}

// anyTimes makes something with a maker, so many times.
func anyTimes(seed int64, n int, do func(m *maker)) {
	for i := range n {
		m := &maker{r: rand.New(rand.NewSource(seed*1000003 + int64(i)))}
		if m.one(3) {
			m.anyFuns()
		}
		for range 1 + m.r.Intn(3) {
			m.p.Inputs = append(m.p.Inputs, pick(m.r, pair, pair, named, mixed, single, integer, unit))
		}
		m.types = slices.Clone(m.p.Inputs)
		do(m)
	}
}

func pick[T any](r *rand.Rand, l ...T) T { return l[r.Intn(len(l))] }

// one reports true once in n times.
func (m *maker) one(n int) bool { return m.r.Intn(n) == 0 }

// anyFuns takes functions, of which the later ones call those ahead of them.
func (m *maker) anyFuns() {
	call := func(n int, l ...api.Exp) api.Exp { return exp(api.ExpCall, n, l...) }
	m.p.Funs = []api.Fun{
		{Params: []api.Type{integer, integer}, Body: bin(api.OpMax, vari(0), vari(1))},
		{Body: text("b")},
		{Params: []api.Type{pair}, Body: call(0, part(0), part(1))},
		{Params: []api.Type{integer}, Body: list(vari(0), call(2, list(vari(0), whole(1))))},
	}
	m.funs = []api.Type{integer, letters, integer, pair}
}

// valid returns a program of so many views, or a few more, with answers.
func (m *maker) valid(views int) api.Prog {
	for len(m.p.Views) < views {
		if m.one(3) {
			m.anyBlock()
		} else {
			m.anyView()
		}
	}
	for range m.r.Intn(5) {
		m.p.Outs = append(m.p.Outs, m.r.Intn(len(m.types)))
	}
	return m.p
}

// put puts a view behind the others.
func (m *maker) put(v api.View, t api.Type) {
	m.p.Views, m.types = append(m.p.Views, v), append(m.types, t)
}

// anyRel returns a relation, anyOf one of a type that there is, anyType one of few types.
func (m *maker) anyRel() int { return m.r.Intn(len(m.types)) }

func (m *maker) anyOf(t api.Type) int {
	for {
		if rel := m.anyRel(); sameType(m.types[rel], t) {
			return rel
		}
	}
}

func (m *maker) anyType() api.Type {
	return pick(m.r, integer, letters, single, pair, pair, named, mixed, unit, either)
}

// anyView puts a view behind the others that is made by no rules.
func (m *maker) anyView() {
	rel := m.anyRel()
	t := m.types[rel]
	of := func(want api.Type, rels ...int) api.Exp {
		var vars []api.Type
		for _, x := range rels {
			vars = append(vars, m.types[x])
		}
		return m.anyExp(vars, want, 2)
	}
	switch op := m.r.Intn(7); op {
	case api.ViewMap:
		want := m.anyType()
		v := made(op, []int{rel})
		for range 1 + m.r.Intn(3) {
			v.F = append(v.F, of(want, rel))
		}
		m.put(v, want)
	case api.ViewKeep:
		m.put(made(op, []int{rel}, of(integer, rel)), t)
	case api.ViewSum:
		v := made(op, []int{rel})
		for range m.r.Intn(3) {
			v.From = append(v.From, m.anyOf(t))
		}
		m.put(v, t)
	case api.ViewNeg, api.ViewOnce:
		m.put(made(op, []int{rel}), t)
	case api.ViewJoin:
		key, want, other := m.anyType(), m.anyType(), m.anyRel()
		m.put(made(op, []int{rel, other}, of(key, rel), of(key, other), of(want, rel, other)), want)
	case api.ViewFold:
		key, n := m.anyType(), m.r.Intn(4)
		v := fold(n, rel, of(key, rel))
		if n != api.FoldCount {
			v.F = append(v.F, of(integer, rel))
		}
		m.put(v, tuples(key, integer))
	}
}

// anyExp returns an expression of a type, with variables of types.
func (m *maker) anyExp(vars []api.Type, want api.Type, deep int) api.Exp {
	l := []func() api.Exp{func() api.Exp { return m.plain(vars, want, deep) }}
	read := func(e api.Exp, t api.Type) {
		if sameType(t, want) {
			l = append(l, times(3, func() api.Exp { return e })...)
		}
	}
	for n, t := range vars {
		read(vari(n), t)
		for i := range t.L {
			if t.Kind == api.TypeTuple {
				read(get(i, vari(n)), t.L[i])
			}
		}
	}
	if deep > 0 {
		l = append(l, func() api.Exp {
			return exp(api.ExpIf, 0, m.anyExp(vars, integer, deep-1), m.anyExp(vars, want, deep-1), m.anyExp(vars, want, deep-1))
		})
		for n, t := range m.funs {
			if sameType(t, want) {
				l = append(l, func() api.Exp {
					e := exp(api.ExpCall, n)
					for _, param := range m.p.Funs[n].Params {
						e.L = append(e.L, m.anyExp(vars, param, deep-1))
					}
					return e
				})
			}
		}
	}
	return pick(m.r, l...)()
}

// plain returns an expression that makes something of a type anew.
func (m *maker) plain(vars []api.Type, want api.Type, deep int) api.Exp {
	switch want.Kind {
	case api.TypeText:
		return text(pick(m.r, "", "a", "b"))
	case api.TypeSum:
		n := m.r.Intn(len(want.L))
		return api.Exp{Op: api.ExpTag, N: n, T: want.L, L: exps(m.anyExp(vars, want.L[n], deep-1))}
	case api.TypeTuple:
		e := list()
		for _, t := range want.L {
			e.L = append(e.L, m.anyExp(vars, t, deep-1))
		}
		return e
	}
	if deep > 0 && !m.one(3) {
		t := integer
		op := m.r.Intn(api.Ops)
		if op >= api.OpLess {
			t = m.anyType()
		}
		return bin(op, m.anyExp(vars, t, deep-1), m.anyExp(vars, t, deep-1))
	}
	return whole(m.r.Intn(3))
}

// anyBlock puts a block of few views behind the others.
func (m *maker) anyBlock() {
	n, first := m.r.Intn(3), len(m.types)
	if k := len(m.p.Views); k > 0 && m.p.Views[k-1].Op == api.ViewRules {
		n = m.p.Views[k-1].N + 1
	}
	for range 1 + m.r.Intn(3) {
		t := pick(m.r, single, pair, pair, named, unit)
		m.put(ruled(n, t), t)
	}
	for rel := first; rel < len(m.types); rel++ {
		v := &m.p.Views[rel-len(m.p.Inputs)]
		for range m.r.Intn(6) {
			v.Rules = append(v.Rules, m.anyRule(v.T, first))
		}
	}
}

// anyRule returns a rule of a block from a relation on, for rows of a type.
func (m *maker) anyRule(t api.Type, first int) (r api.Rule) {
	var vars []api.Type
	// term returns one of a type: a variable that there is, a new one if that may be, or a value.
	term := func(t api.Type, may bool) api.Term {
		var l []api.Term
		for n, x := range vars {
			if sameType(x, t) {
				l = append(l, times(3, api.Term{Var: n})...)
			}
		}
		l = append(l, is(anyValue(m.r, t)))
		if may && len(vars) < 12 {
			l = append(l, times(4, api.Term{Var: len(vars)})...)
		}
		x := pick(m.r, l...)
		if x.Var == len(vars) {
			vars = append(vars, t)
		}
		return x
	}
	put := func(rels int, not bool) {
		rel := m.r.Intn(rels)
		if m.types[rel].Kind != api.TypeTuple || len(r.Body) == api.AtomMost {
			return
		}
		a := api.Atom{Rel: rel, Not: not}
		for _, t := range m.types[rel].L {
			a.Args = append(a.Args, term(t, !not))
		}
		r.Body = append(r.Body, a)
	}
	positive := m.r.Intn(4)
	if m.one(8) {
		positive += 2
	}
	for range positive {
		put(len(m.types), false)
	}
	for range m.r.Intn(3) {
		put(first, true)
	}
	for _, x := range t.L {
		r.Head = append(r.Head, term(x, false))
	}
	types := m.turn(&r, vars)
	for range m.r.Intn(2) {
		r.Tests = append(r.Tests, m.anyExp(types, integer, 1))
	}
	return r
}

// turn gives the variables of a rule other numbers, and its atoms another order; it returns the types of the variables then.
func (m *maker) turn(r *api.Rule, vars []api.Type) []api.Type {
	to := m.r.Perm(len(vars))
	types := make([]api.Type, len(vars))
	for n, t := range vars {
		types[to[n]] = t
	}
	renumber := func(l []api.Term) {
		for i, x := range l {
			if x.Var >= 0 {
				l[i].Var = to[x.Var]
			}
		}
	}
	renumber(r.Head)
	for _, a := range r.Body {
		renumber(a.Args)
	}
	m.r.Shuffle(len(r.Body), func(i, k int) { r.Body[i], r.Body[k] = r.Body[k], r.Body[i] })
	return types
}

// anyValue returns one of very few values of a type.
func anyValue(r *rand.Rand, t api.Type) api.Value {
	switch t.Kind {
	case api.TypeInt:
		return num(r.Intn(3))
	case api.TypeText:
		return str(pick(r, "", "a", "b"))
	case api.TypeSum:
		n := r.Intn(len(t.L))
		return tag(n, anyValue(r, t.L[n]))
	}
	v := tup()
	for _, x := range t.L {
		v.L = append(v.L, anyValue(r, x))
	}
	return v
}

// anyZset returns a collection of few rows of a type; anyIns one for each input.
func anyZset(r *rand.Rand, t api.Type) api.Zset {
	b := bag{}
	for range r.Intn(12) {
		b[written(anyValue(r, t))] += pick(r, 1, 1, 1, 2, 3, -1, -2)
	}
	return b.zset()
}

func (m *maker) anyIns() (l []api.Zset) {
	for _, t := range m.p.Inputs {
		l = append(l, anyZset(m.r, t))
	}
	return l
}
