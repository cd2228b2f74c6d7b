package value

import (
	"iter"

	"deltaworks/api"
)

// nodes are a value, or a type, and its parts, theirs and so on, each with how many it is within, itself too. Parts come behind what they are in, so that a walk that is left at what is not valid never looks into it: a list may hold itself.
func nodes[N any](root N, parts func(N) []N) iter.Seq2[int, N] {
	return func(yield func(int, N) bool) {
		var walk func(n N, deep int) bool
		walk = func(n N, deep int) bool {
			if !yield(deep, n) {
				return false
			}
			for _, part := range parts(n) {
				if !walk(part, deep+1) {
					return false
				}
			}
			return true
		}
		walk(root, 1)
	}
}

// measure returns how many nodes there are; 0 if one of them is not right by itself, or they are more than most, or more than deepest one within the other.
func measure[N any](root N, parts func(N) []N, right func(N) bool, most, deepest int) int {
	count := 0
walk:
	for deep, n := range nodes(root, parts) {
		switch {
		case deep > deepest, count == most, !right(n):
			count = 0
			break walk
		}
		count++
	}
	return count
}

func valueParts(v api.Value) []api.Value { return v.L }

func typeParts(t api.Type) []api.Type { return t.L }

// rightValue reports whether a value is valid, as far as its parts do not matter.
func rightValue(v api.Value) bool {
	switch v.Kind {
	case api.ValueInt:
		return v.N >= api.WordLow && v.N <= api.WordHigh && v.S == "" && len(v.L) == 0
	case api.ValueText:
		return v.N == 0 && rightText(v.S) && len(v.L) == 0
	case api.ValueTuple:
		return v.N == 0 && v.S == "" && len(v.L) <= api.Wide
	case api.ValueTag:
		return v.N >= 0 && v.N < api.Wide && v.S == "" && len(v.L) == 1
	}
	return false
}

func rightText(s string) bool {
	if len(s) > api.TextMost {
		return false
	}
	for i := range len(s) {
		if s[i] < ' ' || s[i] > '~' {
			return false
		}
	}
	return true
}

// rightType reports whether a type is valid.
func rightType(t api.Type) bool {
	return measure(t, typeParts, rightNode, api.TypeMost, api.TypeDeep) > 0
}

// rightNode reports whether a type is valid, as far as its parts do not matter.
func rightNode(t api.Type) bool {
	switch t.Kind {
	case api.TypeInt, api.TypeText:
		return len(t.L) == 0
	case api.TypeTuple:
		return len(t.L) <= api.Wide
	case api.TypeSum:
		return len(t.L) >= 1 && len(t.L) <= api.Wide
	}
	return false
}

// matches reports whether a valid value is of a valid type.
func matches(v api.Value, t api.Type) bool {
	switch t.Kind {
	case api.TypeInt:
		return v.Kind == api.ValueInt
	case api.TypeText:
		return v.Kind == api.ValueText
	case api.TypeSum:
		return v.Kind == api.ValueTag && v.N < len(t.L) && matches(v.L[0], t.L[v.N])
	}
	if v.Kind != api.ValueTuple || len(v.L) != len(t.L) {
		return false
	}
	for i, part := range v.L {
		if !matches(part, t.L[i]) {
			return false
		}
	}
	return true
}
