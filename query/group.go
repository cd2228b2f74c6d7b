package query

import (
	"deltaworks/api"
	"deltaworks/refuse"
	"deltaworks/value"
)

// group is what values that are the same have in common: their key.
type group struct{ key string }

// groups has something for each value that came to it, in the order in which they came.
type groups[T any] struct {
	at  map[group]int
	all []grouped[T]
}

type grouped[T any] struct {
	value api.Value
	has   T
}

func newGroups[T any]() *groups[T] { return &groups[T]{at: map[group]int{}} }

// place returns in which place a value came.
func (g *groups[T]) place(v api.Value) int {
	is := group{refuse.Got(value.Key(v))}
	i, found := g.at[is]
	if !found {
		i = len(g.all)
		g.at[is] = i
		g.all = append(g.all, grouped[T]{value: v})
	}
	return i
}

// of returns what there is for a value: at first the zero value. It is found there until another value comes.
func (g *groups[T]) of(v api.Value) *T {
	i := g.place(v)
	return &g.all[i].has
}
