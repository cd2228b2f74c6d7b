// Package fresh copies values, expressions and rules. A copy shares no memory with what it is of, and what is not named in it is its zero value. It is no layer itself.
package fresh

import (
	"deltaworks/api"
	"deltaworks/lists"
	"deltaworks/types"
)

// Value returns a copy of a value that is valid.
func Value(v api.Value) api.Value {
	v.L = lists.Changed(v.L, Value)
	return v
}

// Node returns a copy of an expression that is formed; its parts are still the same.
func Node(e api.Exp) api.Exp {
	made := api.Exp{Op: e.Op, L: lists.Joined(e.L)}
	switch e.Op {
	case api.ExpText:
		made.S = e.S
	case api.ExpTag:
		made.T = lists.Changed(e.T, types.New)
		fallthrough
	case api.ExpVar, api.ExpInt, api.ExpGet, api.ExpBin, api.ExpCall:
		made.N = e.N
	}
	return made
}

// Rule returns a copy of a rule that is formed.
func Rule(r api.Rule) api.Rule {
	return api.Rule{Head: lists.Changed(r.Head, term), Body: lists.Changed(r.Body, atom), Tests: lists.Changed(r.Tests, expression)}
}

func atom(a api.Atom) api.Atom {
	a.Args = lists.Changed(a.Args, term)
	return a
}

// term leaves out the value of a variable, which may be anything.
func term(t api.Term) api.Term {
	made := api.Term{Var: t.Var}
	if t.Var < 0 {
		made.Value = Value(t.Value)
	}
	return made
}

func expression(e api.Exp) api.Exp {
	made := Node(e)
	for i, part := range made.L {
		made.L[i] = expression(part)
	}
	return made
}
