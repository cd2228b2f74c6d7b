package calc

import (
	"slices"

	"deltaworks/api"
	"deltaworks/lists"
	"deltaworks/refuse"
)

// scope is where something is asked of an expression, its type or its value: functions, and variables, of which the same is known already.
type scope[V any] struct {
	*checker
	vars []V
	ask  func(k kind, s scope[V], e api.Exp) V
}

// of returns what is asked of an expression.
func (s scope[V]) of(e api.Exp) V { return s.ask(operations()[e.Op].kind, s, e) }

// parts returns what is asked of each part of an expression that binds no variable.
func (s scope[V]) parts(e api.Exp) []V { return lists.Changed(e.L, s.of) }

// with returns a scope with variables more.
func (s scope[V]) with(more ...V) scope[V] {
	s.vars = lists.Joined(s.vars, more...)
	return s
}

// word and text are the types of words and of texts.
var (
	word = api.Type{Kind: api.TypeInt}
	text = api.Type{Kind: api.TypeText}
)

func same(a, b api.Type) bool { return a.Kind == b.Kind && slices.EqualFunc(a.L, b.L, same) }

// need refuses types unless they are those that are needed.
func need(types []api.Type, needed ...api.Type) {
	refuse.Unless(slices.EqualFunc(types, needed, same), api.ErrType)
}

// needOne refuses types, of which there is at least one, unless they are one type, which it returns.
func needOne(types ...api.Type) api.Type {
	for _, t := range types {
		refuse.Unless(same(t, types[0]), api.ErrType)
	}
	return types[0]
}

// needValid refuses a type that is made of valid ones unless it is valid, and returns it.
func needValid(t api.Type) api.Type {
	refuse.Unless(isType(t), api.ErrType)
	return t
}
