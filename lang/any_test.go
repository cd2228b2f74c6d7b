package lang_test

import (
	"math/rand"
	"slices"
	"strings"

	"deltaworks/api"
	"deltaworks/zset"
)

// maker makes things of which texts are written.
type maker struct{ *rand.Rand }

// anyTimes makes something with a maker, so many times.
func anyTimes(seed int64, n int, do func(m maker)) {
	for i := range n {
		do(maker{rand.New(rand.NewSource(seed*1000003 + int64(i)))})
	}
}

func pick[T any](r *rand.Rand, l ...T) T { return l[r.Intn(len(l))] }

// some returns a list of from so many to so many.
func some[T any](m maker, least, most int, one func() T) (l []T) {
	for range least + m.Intn(most-least+1) {
		l = append(l, one())
	}
	return l
}

// number returns one that is a part of a word.
func (m maker) number() int {
	return pick(m.Rand, m.Intn(3), m.Intn(3), m.Intn(3), m.Intn(1000), 9, 10, 99, 100, 999)
}

func (m maker) word() int {
	return pick(m.Rand, m.Intn(20)-10, m.Intn(2000)-1000, 0, 1, -1, api.WordLow, api.WordHigh)
}

func (m maker) letters() string {
	return strings.Join(some(m, 0, 3, func() string { return pick(m.Rand, "a", "b", "\"", "\\", " ", "~", "x0", "{") }), "")
}

func (m maker) value(deep int) api.Value {
	switch k := m.Intn(4); {
	case k == 1:
		return str(m.letters())
	case k == 2 && deep > 1:
		return tup(some(m, 0, 3, func() api.Value { return m.value(deep - 1) })...)
	case k == 3 && deep > 1:
		return tag(m.Intn(8), m.value(deep-1))
	}
	return num(m.word())
}

func (m maker) kind(deep int) api.Type {
	next := func() api.Type { return m.kind(deep - 1) }
	switch k := m.Intn(4); {
	case k == 1:
		return letters
	case k == 2 && deep > 1:
		return tuples(some(m, 0, 3, next)...)
	case k == 3 && deep > 1:
		return sums(some(m, 1, 3, next)...)
	}
	return integer
}

func (m maker) exp(deep int) api.Exp {
	op := m.Intn(14)
	if deep == 1 {
		op = pick(m.Rand, api.ExpVar, api.ExpInt, api.ExpText)
	}
	parts := func(least, most int) []api.Exp {
		return some(m, least, most, func() api.Exp { return m.exp(deep - 1) })
	}
	switch op {
	case api.ExpVar:
		return vari(m.number())
	case api.ExpInt:
		return whole(m.word())
	case api.ExpText:
		return text(m.letters())
	case api.ExpTuple:
		return list(parts(0, 3)...)
	case api.ExpTag:
		return tagged(m.number(), parts(1, 1)[0], some(m, 1, 3, func() api.Type { return m.kind(2) })...)
	case api.ExpBin:
		return exp(op, m.Intn(api.Ops), parts(2, 2)...)
	case api.ExpCall:
		return exp(op, m.number(), parts(0, 3)...)
	case api.ExpCase:
		return exp(op, 0, parts(2, 4)...)
	case api.ExpGet:
		return exp(op, m.number(), parts(1, 1)...)
	}
	n := map[int]int{api.ExpLet: 2, api.ExpIf: 3, api.ExpSize: 1, api.ExpJoin: 2, api.ExpCut: 3}[op]
	return exp(op, 0, parts(n, n)...)
}

func (m maker) shortExp() api.Exp { return m.exp(1 + m.Intn(3)) }

func (m maker) term() api.Term {
	if m.Intn(2) == 0 {
		return is(m.value(3))
	}
	return api.Term{Var: m.number()}
}

func (m maker) terms() []api.Term { return some(m, 0, 3, m.term) }

func (m maker) atom() api.Atom {
	return api.Atom{Rel: m.number(), Not: m.Intn(2) == 0, Args: m.terms()}
}

func (m maker) rule() api.Rule {
	return api.Rule{Head: m.terms(), Body: some(m, 0, 2, m.atom), Tests: some(m, 0, 2, m.shortExp)}
}

func (m maker) view() api.View {
	made := func(op, n, from, parts int) api.View {
		return view(op, n, some(m, from, from, m.number), some(m, parts, parts, m.shortExp)...)
	}
	switch op := m.Intn(8); op {
	case api.ViewMap:
		return made(op, 0, 1, 1+m.Intn(5))
	case api.ViewKeep:
		return made(op, 0, 1, 1)
	case api.ViewSum:
		return made(op, 0, 1+m.Intn(4), 0)
	case api.ViewJoin:
		return made(op, 0, 2, 3)
	case api.ViewFold:
		n := m.Intn(4)
		return made(op, n, 1, min(2, 1+n))
	case api.ViewRules:
		return rules(m.number(), m.kind(3), some(m, 0, 3, m.rule)...)
	default:
		return made(op, 0, 1, 0)
	}
}

func (m maker) fun() api.Fun {
	return api.Fun{Params: some(m, 0, 2, func() api.Type { return m.kind(2) }), Body: m.shortExp()}
}

// prog returns a program of few parts of each kind.
func (m maker) prog() (p api.Prog) {
	p.Funs = some(m, 0, m.Intn(3), m.fun)
	p.Inputs = some(m, 0, m.Intn(3), func() api.Type { return m.kind(3) })
	p.Views = some(m, 0, m.Intn(4), m.view)
	p.Outs = some(m, 0, m.Intn(3), m.number)
	return p
}

// items are rows with counts, in any order; zset is the collection of them.
func (m maker) items() []api.Item {
	few := some(m, 1, 4, func() api.Value { return m.value(1 + m.Intn(4)) })
	return some(m, 0, 6, func() api.Item {
		return row(pick(m.Rand, few...), pick(m.Rand, 1, 1, 2, -1, 0, 10, m.Intn(1e6), 999999999999999999, -999999999999999999))
	})
}

func (m maker) zset() api.Zset {
	z, _ := zset.Make(m.items())
	return slices.DeleteFunc(z, func(x api.Item) bool { return x.N >= 1e18 || x.N <= -1e18 })
}
