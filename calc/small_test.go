package calc_test

import (
	"math/rand"
	"testing"

	"deltaworks/api"
	"deltaworks/calc"
)

// small are variables and functions with which there are small expressions of all kinds.
func small() (m model, vars []api.Type) {
	m.funs = []api.Fun{
		fun(text("f")),
		fun(join(vari(1), cut(vari(1), vari(0), whole(2))), integer, letters),
		fun(tagged(either, 1, vari(0)), letters),
	}
	m.results = []api.Type{letters, letters, either}
	return m, []api.Type{integer, letters, either, tuples(integer, either)}
}

// leaves are expressions without parts, some of which are not formed.
func leaves() []api.Exp {
	return []api.Exp{vari(0), vari(1), vari(2), vari(3), vari(4), vari(5), vari(-1), whole(0), whole(-2), whole(1 << 31), text("abc"), text("\x7f"), list(), call(0), call(1)}
}

// around are expressions of one or two parts, of which the first one is around it; a second and a third part are filled by others.
func around(e api.Exp, others func() api.Exp) []api.Exp {
	return []api.Exp{
		list(e), list(e, others()), get(0, e), get(1, e), get(7, e), get(8, e),
		tagged(either, 0, e), tagged(either, 1, e), tagged(either, 2, e), tagged(sums(pair), 0, e),
		caseOf(e, others(), others()), caseOf(others(), e, others()), caseOf(others(), others(), e), caseOf(e, others()), caseOf(e),
		let(e, others()), let(others(), e),
		choose(e, others(), others()), choose(others(), e, others()), choose(others(), others(), e),
		bin(api.OpSub, e, others()), bin(api.OpMul, others(), e), bin(api.OpLess, e, others()), bin(api.OpSame, others(), e), bin(api.OpMod, e, e), bin(12, e, e),
		size(e), join(e, others()), join(others(), e),
		cut(e, others(), others()), cut(others(), e, others()), cut(others(), others(), e),
		call(0, e), call(1, e, others()), call(1, others(), e), call(2, e), call(3, e), exp(14, 0, e),
	}
}

// asModel fails unless the model tells of an expression what is returned.
func asModel(t *testing.T, m model, vars []api.Type, values []api.Value, e api.Exp) api.Errno {
	t.Helper()
	var want api.Type
	var result api.Value
	err := api.ErrArg
	if m.formed(e, len(vars), false) {
		ok := false
		err = api.ErrType
		if want, ok = m.typ(e, vars); ok {
			err, result = api.OK, m.eval(e, values)
		} else {
			want = api.Type{}
		}
	}
	u, f := calc.TypeOf(m.funs, vars, e)
	isType(t, u, f, want, err)
	v, f := calc.Eval(m.funs, vars, values, e)
	isValue(t, v, f, result, err)
	if t.Failed() {
		t.Fatalf("%v", e)
	}
	return err
}

// TestSmallExpressions: P5.2 and P5.3: of small expressions of all kinds, whether they are formed, and typed, and what they are.
func TestSmallExpressions(t *testing.T) {
	m, vars := small()
	r := rand.New(rand.NewSource(3))
	counts := map[api.Errno]int{}
	l := leaves()
	last := l
	for range 4 {
		var next []api.Exp
		for _, e := range last {
			others := func() api.Exp { return l[r.Intn(len(l))] }
			for _, made := range around(e, others) {
				err := asModel(t, m, vars, anyValues(r, vars), made)
				counts[err]++
				// Of what is not right little is built further.
				if err == api.OK || r.Intn(12) == 0 {
					next = append(next, made)
				}
			}
		}
		r.Shuffle(len(next), func(i, k int) { next[i], next[k] = next[k], next[i] })
		last = next[:min(len(next), 3000)]
		l = append(l, last[:min(len(last), 60)]...)
	}
	for _, err := range []api.Errno{api.OK, api.ErrArg, api.ErrType} {
		if counts[err] < 5000 {
			t.Errorf("%d with the error %d", counts[err], err)
		}
	}
}

// TestAlteredExpressions: P5.2 and P5.3, of great expressions in which one node is another one.
func TestAlteredExpressions(t *testing.T) {
	anyTimes(4, 3000, func(m maker) {
		e := m.typed(m.anyType())
		asModel(t, m.model, m.vars, anyValues(m.r, m.vars), m.altered(e, len(m.vars)))
	})
}

// altered returns an expression in which one node is another one.
func (m maker) altered(e api.Exp, vars int) api.Exp {
	if n := len(e.L); n > 0 && m.r.Intn(3) > 0 {
		l := append([]api.Exp{}, e.L...)
		at := m.r.Intn(n)
		l[at] = m.altered(l[at], vars+m.more(e.Op, at))
		e.L = l
		return e
	}
	switch m.r.Intn(5) {
	case 0:
		e.N += []int{1, -1, 8}[m.r.Intn(3)]
	case 1:
		e.Op = m.r.Intn(14)
	case 2:
		e.L = append(e.L[:len(e.L):len(e.L)], e)
	case 3:
		return vari(m.r.Intn(vars + 1))
	case 4:
		others := func() api.Exp { return vari(m.r.Intn(vars + 1)) }
		l := around(e, others)
		return l[m.r.Intn(len(l))]
	}
	return e
}
