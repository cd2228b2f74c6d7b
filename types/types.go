// Package types makes, compares, copies and refuses types of rows. It is no layer itself.
package types

import (
	"slices"

	"deltaworks/api"
	"deltaworks/lists"
	"deltaworks/refuse"
	"deltaworks/value"
)

// Word returns the type of words.
func Word() api.Type { return api.Type{Kind: api.TypeInt} }

// Text returns the type of texts.
func Text() api.Type { return api.Type{Kind: api.TypeText} }

// Tuple returns the type of tuples of these parts.
func Tuple(parts ...api.Type) api.Type {
	return api.Type{Kind: api.TypeTuple, L: lists.Joined(parts)}
}

// IsValid reports whether a type is valid.
func IsValid(t api.Type) bool { return value.Type(t) == api.OK }

// Same reports whether two types that are valid are the same.
func Same(a, b api.Type) bool { return a.Kind == b.Kind && slices.EqualFunc(a.L, b.L, Same) }

// Need refuses types unless they are those that are needed.
func Need(l []api.Type, needed ...api.Type) {
	refuse.Unless(slices.EqualFunc(l, needed, Same), api.ErrType)
}

// NeedOne refuses types, of which there is at least one, unless they are one type, which it returns.
func NeedOne(l ...api.Type) api.Type {
	for _, t := range l {
		refuse.Unless(Same(t, l[0]), api.ErrType)
	}
	return l[0]
}

// NeedValid refuses a type that is made of valid ones unless it is valid, and returns it.
func NeedValid(t api.Type) api.Type {
	refuse.Unless(IsValid(t), api.ErrType)
	return t
}

// New returns a copy of a type that shares no memory with it.
func New(t api.Type) api.Type {
	t.L = lists.Changed(t.L, New)
	return t
}
