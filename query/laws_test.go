package query_test

import (
	"slices"
	"testing"

	"deltaworks/api"
	"deltaworks/calc"
	"deltaworks/query"
	zsets "deltaworks/zset"
)

// view makes a view of collections, which are those of inputs.
func (m *maker) view(v api.View, l []api.Zset) api.Zset {
	p := api.Prog{Funs: m.p.Funs, Inputs: m.types[:len(l)], Views: []api.View{v}}
	return must(query.Eval(p, l))[len(l)]
}

func plus(a, b api.Zset) api.Zset { return must(zsets.Add(a, b)) }

// TestSums: P6.7: what ViewMap, ViewKeep, ViewSum and ViewNeg make of sums are sums; so is what ViewJoin makes of each of both.
func TestSums(t *testing.T) {
	seen := map[int]int{}
	anyTimes(4, 6000, func(m *maker) {
		m.p.Views, m.types = nil, m.p.Inputs
		m.anyView()
		v := m.p.Views[0]
		seen[v.Op]++
		a, b := m.anyIns(), m.anyIns()
		both := must(query.Apply(program(m.p.Inputs), a, b))
		switch v.Op {
		case api.ViewMap, api.ViewKeep, api.ViewSum, api.ViewNeg:
			areRels(t, ins(m.view(v, both)), api.OK, ins(plus(m.view(v, a), m.view(v, b))), api.OK)
		case api.ViewJoin:
			for i := range 2 {
				// One of both is the sum; for that they are inputs of their own.
				m.types = []api.Type{m.p.Inputs[v.From[0]], m.p.Inputs[v.From[1]]}
				w := v
				w.From = []int{0, 1}
				x, y, sum := ins(a[v.From[0]], a[v.From[1]]), ins(a[v.From[0]], a[v.From[1]]), ins(a[v.From[0]], a[v.From[1]])
				y[i] = b[v.From[i]]
				sum[i] = plus(x[i], y[i])
				areRels(t, ins(m.view(w, sum)), api.OK, ins(plus(m.view(w, x), m.view(w, y))), api.OK)
			}
		}
	})
	for _, op := range []int{api.ViewMap, api.ViewKeep, api.ViewSum, api.ViewNeg, api.ViewJoin} {
		if seen[op] < 500 {
			t.Error(seen)
		}
	}
}

// TestOnceOfSet: P6.7: ViewOnce of a set is itself.
func TestOnceOfSet(t *testing.T) {
	anyTimes(5, 300, func(m *maker) {
		l := m.anyIns()
		once := made(api.ViewOnce, []int{0})
		set := m.view(once, l)
		l[0] = set
		areRels(t, ins(m.view(once, l)), api.OK, ins(set), api.OK)
	})
}

// TestRulesHold: P6.7: the relations of a block hold all rules, each row once, and have no row that no rule makes of others.
func TestRulesHold(t *testing.T) {
	rows := 0
	anyTimes(6, 1500, func(m *maker) {
		m.anyBlock()
		m.anyBlock()
		rels := must(query.Eval(m.p, m.anyIns()))
		var bags []bag
		for _, z := range rels {
			bags = append(bags, bagOf(z))
		}
		for rel := len(m.p.Inputs); rel < len(rels); rel++ {
			v := m.p.Views[rel-len(m.p.Inputs)]
			follows := bag{}
			for _, r := range v.Rules {
				for s := range (model{m.p}).follows(v, r, m.types, bags) {
					follows[s] = 1
				}
			}
			rows += len(follows)
			areRels(t, rels[rel:rel+1], api.OK, ins(follows.zset()), api.OK)
		}
	})
	if rows < 3000 {
		t.Error(rows)
	}
}

// TestMoreRows: P6.7: without negated atoms, and with more rows of sets, a block has no fewer rows.
func TestMoreRows(t *testing.T) {
	grown := 0
	anyTimes(7, 2000, func(m *maker) {
		m.anyBlock()
		for i := range m.p.Views {
			for k, r := range m.p.Views[i].Rules {
				m.p.Views[i].Rules[k].Body = slices.DeleteFunc(r.Body, func(a api.Atom) bool { return a.Not })
			}
		}
		few := m.anyIns()
		more := must(query.Apply(m.p, few, m.anyIns()))
		for i := range few {
			few[i] = must(zsets.Once(few[i]))
			more[i] = must(zsets.Once(plus(more[i], few[i])))
			more[i] = must(zsets.Once(plus(more[i], few[i])))
		}
		a, b := must(query.Eval(m.p, few)), must(query.Eval(m.p, more))
		for i := range a {
			all := bagOf(b[i])
			for _, x := range a[i] {
				if all[written(x.Row)] != 1 {
					t.Fatalf("%+v: %s, but %s", m.p, told(a), told(b))
				}
			}
			grown += len(b[i]) - len(a[i])
		}
	})
	if grown < 1000 {
		t.Error(grown)
	}
}

// TestNotReadMakesNoDifference: P6.7: views that no other one reads, and that are not in Outs, make no difference to answers.
func TestNotReadMakesNoDifference(t *testing.T) {
	anyTimes(8, 600, func(m *maker) {
		p := m.valid(4)
		l := m.anyIns()
		want, e := query.Answers(p, l)
		more := p
		for range 3 {
			m.anyView()
		}
		m.anyBlock()
		more.Views = m.p.Views
		got, err := query.Answers(more, l)
		areRels(t, got, err, want, e)
	})
}

// TestOneMeaning: P6.7: what a view makes of what another one makes, a single one makes by both expressions.
func TestOneMeaning(t *testing.T) {
	anyTimes(9, 800, func(m *maker) {
		m.p.Inputs, m.types = m.p.Inputs[:1], m.types[:1]
		mid, end := m.anyType(), m.anyType()
		f, g := m.anyExp(m.types, mid, 2), m.anyExp([]api.Type{mid}, end, 2)
		both, e := calc.Put(g, exps(f), 1)
		if e != api.OK {
			return
		}
		p := program(m.p.Inputs, made(api.ViewMap, []int{0}, f), made(api.ViewMap, []int{1}, g), made(api.ViewMap, []int{0}, both))
		p.Funs = m.p.Funs
		rels := must(query.Eval(p, m.anyIns()))
		areRels(t, rels[3:], api.OK, rels[2:3], api.OK)
	})
}
