package calc

import (
	"deltaworks/api"
	"deltaworks/lists"
)

// scope is where something is asked of an expression, its type or its value: functions, and variables, of which the same is known already.
type scope[V any] struct {
	*checker
	vars []V
	ask  func(k kind, s scope[V], e api.Exp) V
}

// of returns what is asked of an expression.
func (s scope[V]) of(e api.Exp) V { return s.ask(operations()[e.Op].kind, s, e) }

// parts returns what is asked of each part of an expression that binds no variable.
func (s scope[V]) parts(e api.Exp) []V { return lists.Changed(e.L, s.of) }

// with returns a scope with variables more.
func (s scope[V]) with(more ...V) scope[V] {
	s.vars = lists.Joined(s.vars, more...)
	return s
}
