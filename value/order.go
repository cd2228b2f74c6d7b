package value

import (
	"cmp"
	"slices"
	"strings"

	"deltaworks/api"
)

// order returns which of two valid values is ahead. Fields that a kind does not use are the same in both, so that none of them has to be left out.
func order(a, b api.Value) int {
	if a.Kind != b.Kind {
		return cmp.Compare(a.Kind, b.Kind)
	}
	if a.N != b.N {
		return cmp.Compare(a.N, b.N)
	}
	if a.S != b.S {
		return strings.Compare(a.S, b.S)
	}
	return slices.CompareFunc(a.L, b.L, order)
}

// least returns the first value of a valid type.
func least(t api.Type) api.Value {
	switch t.Kind {
	case api.TypeInt:
		return api.Value{N: api.WordLow}
	case api.TypeText:
		return api.Value{Kind: api.ValueText}
	case api.TypeSum:
		return api.Value{Kind: api.ValueTag, L: list(least(t.L[0]))}
	}
	var room [api.Wide]api.Value
	for i, part := range t.L {
		room[i] = least(part)
	}
	return api.Value{Kind: api.ValueTuple, L: list(room[:len(t.L)]...)}
}

// list returns a new list of these parts; without parts it is nil.
func list[T any](parts ...T) []T {
	if len(parts) == 0 {
		return nil
	}
	l := make([]T, len(parts))
	copy(l, parts)
	return l
}
