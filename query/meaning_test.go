package query_test

import (
	"maps"
	"math/big"
	"slices"

	"deltaworks/api"
	"deltaworks/calc"
	"deltaworks/value"
)

// bag has the count of each row, by its text.
type bag map[string]int

// bagOf returns a collection as a bag, and zset, the other way, without what is there 0 times.
func bagOf(z api.Zset) bag {
	b := bag{}
	for _, x := range z {
		b[written(x.Row)] += x.N
	}
	return b
}

func (b bag) zset() (z api.Zset) {
	for s, n := range b {
		if n != 0 {
			z = append(z, row(must(value.Parse(s)), n))
		}
	}
	slices.SortFunc(z, func(x, y api.Item) int { return must(value.Compare(x.Row, y.Row)) })
	return z
}

func written(v api.Value) string { return must(value.Text(v)) }

// meaning returns all relations of a program that is valid, as the chapter defines them.
func (m model) meaning(inputs []api.Zset) ([]api.Zset, api.Errno) {
	types := must(m.verdict())
	rels := make([]bag, m.rels())
	for i := range rels {
		rels[i] = bag{}
		if i < len(inputs) {
			rels[i] = bagOf(inputs[i])
		}
	}
	for rel := len(m.Inputs); rel < m.rels(); rel++ {
		if v := m.view(rel); v.Op == api.ViewRules {
			m.settle(rel, types, rels)
		} else {
			rels[rel] = m.rows(v, types, rels)
		}
	}
	var l []api.Zset
	for _, b := range rels {
		l = append(l, b.zset())
		if len(l[len(l)-1]) > 20000 {
			return nil, api.ErrFull
		}
	}
	return l, api.OK
}

// rows returns those of a view that is made of others by no rules.
func (m model) rows(v api.View, types []api.Type, rels []bag) bag {
	of := func(i int, rows []api.Value, from ...int) api.Value {
		var vars []api.Type
		for _, n := range from {
			vars = append(vars, types[v.From[n]])
		}
		return must(calc.Eval(m.Funs, vars, rows, v.F[i]))
	}
	b := bag{}
	first := rels[v.From[0]].zset()
	switch v.Op {
	case api.ViewMap:
		for _, x := range first {
			for i := range v.F {
				b[written(of(i, []api.Value{x.Row}, 0))] += x.N
			}
		}
	case api.ViewKeep:
		for _, x := range first {
			if of(0, []api.Value{x.Row}, 0).N != 0 {
				b[written(x.Row)] = x.N
			}
		}
	case api.ViewSum:
		for _, rel := range v.From {
			for s, n := range rels[rel] {
				b[s] += n
			}
		}
	case api.ViewNeg:
		for s, n := range rels[v.From[0]] {
			b[s] = -n
		}
	case api.ViewOnce:
		for s := range rels[v.From[0]].set() {
			b[s] = 1
		}
	case api.ViewJoin:
		for _, x := range first {
			for _, y := range rels[v.From[1]].zset() {
				if sameValue(of(0, []api.Value{x.Row}, 0), of(1, []api.Value{y.Row}, 1)) {
					b[written(of(2, []api.Value{x.Row, y.Row}, 0, 1))] += x.N * y.N
				}
			}
		}
	case api.ViewFold:
		return foldOf(v.N, first, func(i int, r api.Value) api.Value { return of(i, []api.Value{r}, 0) })
	}
	return b
}

// set has the rows whose count is above 0.
func (b bag) set() bag {
	made := bag{}
	for s, n := range b {
		if n > 0 {
			made[s] = 1
		}
	}
	return made
}

// foldOf makes of each group of rows what a fold makes of it: of gives the key, and the word, of a row.
func foldOf(fold int, z api.Zset, of func(i int, row api.Value) api.Value) bag {
	groups := map[string]api.Zset{}
	for _, x := range z {
		key := written(of(0, x.Row))
		groups[key] = append(groups[key], x)
	}
	b := bag{}
	put := func(key string, n int) { b[written(tup(must(value.Parse(key)), num(n)))] = 1 }
	for key, group := range groups {
		sum := new(big.Int)
		var there []int
		for _, x := range group {
			word := 1
			if fold != api.FoldCount {
				word = of(1, x.Row).N
			}
			sum.Add(sum, new(big.Int).Mul(big.NewInt(int64(x.N)), big.NewInt(int64(word))))
			if x.N > 0 {
				there = append(there, word)
			}
		}
		switch {
		case fold == api.FoldCount, fold == api.FoldSum:
			put(key, kept(sum))
		case len(there) == 0:
		case fold == api.FoldMin:
			put(key, slices.Min(there))
		case fold == api.FoldMax:
			put(key, slices.Max(there))
		}
	}
	return b
}

// kept returns what 32 bits keep of a number.
func kept(n *big.Int) int {
	span := big.NewInt(1 << 32)
	rest := new(big.Int).Mod(n, span).Int64()
	if rest > api.WordHigh {
		rest -= 1 << 32
	}
	return int(rest)
}

// settle puts rows into the views of the block of a view until all rules hold.
func (m model) settle(rel int, types []api.Type, rels []bag) {
	first, end := m.block(rel)
	if rel != first {
		return
	}
	for grown := true; grown; {
		grown = false
		for at := first; at < end; at++ {
			for _, r := range m.view(at).Rules {
				for s := range m.follows(m.view(at), r, types, rels) {
					grown = grown || rels[at][s] == 0
					rels[at][s] = 1
				}
			}
		}
	}
}

// follows returns the rows that a rule makes of relations as they are.
func (m model) follows(v api.View, r api.Rule, types []api.Type, rels []bag) bag {
	vars, _ := m.varTypes(v, r, types)
	b := bag{}
	var stand func(left []api.Atom, values map[int]api.Value)
	stand = func(left []api.Atom, values map[int]api.Value) {
		if len(left) == 0 {
			if m.holds(r, vars, values, rels) {
				b[written(put(r.Head, values))] = 1
			}
			return
		}
		if left[0].Not {
			stand(left[1:], values)
			return
		}
		for s := range rels[left[0].Rel].set() {
			if more, can := taken(left[0].Args, must(value.Parse(s)), values); can {
				stand(left[1:], more)
			}
		}
	}
	stand(r.Body, map[int]api.Value{})
	return b
}

// put returns the row of terms, for values of variables.
func put(l []api.Term, values map[int]api.Value) api.Value {
	v := tup()
	for _, x := range l {
		if x.Var >= 0 {
			x.Value = values[x.Var]
		}
		v.L = append(v.L, x.Value)
	}
	return v
}

// taken returns values of variables with which terms are a row, if there are some.
func taken(l []api.Term, r api.Value, values map[int]api.Value) (more map[int]api.Value, can bool) {
	more = maps.Clone(values)
	for i, x := range l {
		old, there := more[x.Var]
		switch {
		case x.Var == -1:
			old, there = x.Value, true
		case !there:
			more[x.Var] = r.L[i]
		}
		if there && !sameValue(old, r.L[i]) {
			return nil, false
		}
	}
	return more, true
}

// holds reports whether no atom with Not is there, and no test is 0, for values of all variables.
func (m model) holds(r api.Rule, vars []api.Type, values map[int]api.Value, rels []bag) bool {
	for _, a := range r.Body {
		if a.Not && rels[a.Rel][written(put(a.Args, values))] > 0 {
			return false
		}
	}
	var l []api.Value
	for n := range vars {
		l = append(l, values[n])
	}
	for _, e := range r.Tests {
		if must(calc.Eval(m.Funs, vars, l, e)).N == 0 {
			return false
		}
	}
	return true
}
