package calc_test

import (
	"slices"
	"testing"

	"deltaworks/api"
	"deltaworks/calc"
	"deltaworks/value"
)

// TestTotal: P5.8: an expression that is typed has a value, of its type, for all values of variables.
func TestTotal(t *testing.T) {
	anyTimes(9, 2000, func(m maker) {
		e := m.typed(m.anyType())
		u := must(calc.TypeOf(m.funs, m.vars, e))
		for range 3 {
			if v, err := calc.Eval(m.funs, m.vars, anyValues(m.r, m.vars), e); err != api.OK || !value.Is(v, u) {
				t.Fatalf("%v: %v, %d", e, v, err)
			}
		}
	})
}

// TestPutAndEvaluate: P5.8: to put expressions for variables, and evaluate, is to evaluate these first.
func TestPutAndEvaluate(t *testing.T) {
	done := 0
	anyTimes(10, 4000, func(m maker) {
		want := m.anyType()
		e := m.typed(want)
		others := maker{model: m.model, r: m.r, vars: []api.Type{m.anyType(), m.anyType()}}
		values := anyValues(m.r, others.vars)
		var l []api.Exp
		var first []api.Value
		for _, u := range m.vars {
			put := others.typed(u)
			l = append(l, put)
			first = append(first, must(calc.Eval(m.funs, others.vars, values, put)))
		}
		put, err := calc.Put(e, l, 2)
		if err == api.ErrRange {
			return
		}
		done++
		u, err := calc.TypeOf(m.funs, others.vars, put)
		isType(t, u, err, want, api.OK)
		v, err := calc.Eval(m.funs, others.vars, values, put)
		isValue(t, v, err, must(calc.Eval(m.funs, m.vars, first, e)), api.OK)
	})
	if done < 1000 {
		t.Error(done)
	}
}

// TestNotRead: P5.8: a variable that is not read makes no difference.
func TestNotRead(t *testing.T) {
	anyTimes(11, 2000, func(m maker) {
		e := m.typed(m.anyType())
		read := must(calc.Uses(e, len(m.vars)))
		values := anyValues(m.r, m.vars)
		v := must(calc.Eval(m.funs, m.vars, values, e))
		others := anyValues(m.r, m.vars)
		for _, n := range read {
			others[n] = values[n]
		}
		w, err := calc.Eval(m.funs, m.vars, others, e)
		isValue(t, w, err, v, api.OK)
		// Nor does it matter of which type it is.
		types := slices.Clone(m.vars)
		for n := range types {
			if !slices.Contains(read, n) {
				types[n] = m.anyType()
				others[n] = anyValue(m.r, types[n])
			}
		}
		w, err = calc.Eval(m.funs, types, others, e)
		isValue(t, w, err, v, api.OK)
	})
}

// TestCallIsBody: P5.8: a call is its body with the parts put in.
func TestCallIsBody(t *testing.T) {
	done := 0
	anyTimes(12, 4000, func(m maker) {
		for n, f := range m.funs {
			var parts []api.Exp
			for _, u := range f.Params {
				parts = append(parts, m.typed(u))
			}
			e := call(n, parts...)
			body, err := calc.Put(f.Body, parts, len(m.vars))
			if err != api.OK || !m.formed(e, len(m.vars), false) {
				continue
			}
			done++
			values := anyValues(m.r, m.vars)
			u, err := calc.TypeOf(m.funs, m.vars, e)
			isType(t, u, err, must(calc.TypeOf(m.funs, m.vars, body)), api.OK)
			v, err := calc.Eval(m.funs, m.vars, values, e)
			isValue(t, v, err, must(calc.Eval(m.funs, m.vars, values, body)), api.OK)
		}
	})
	if done < 1000 {
		t.Error(done)
	}
}
