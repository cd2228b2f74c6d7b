// Package lists makes lists of lists. It is no layer itself.
package lists

// Changed returns a list of what of makes of each element; without elements it is nil.
func Changed[T, U any](l []T, of func(T) U) []U {
	if len(l) == 0 {
		return nil
	}
	made := make([]U, len(l))
	for i, x := range l {
		made[i] = of(x)
	}
	return made
}

// Joined returns a list of the elements of l, and more behind them; without elements it is nil.
func Joined[T any](l []T, more ...T) []T {
	if len(l)+len(more) == 0 {
		return nil
	}
	made := make([]T, len(l)+len(more))
	n := copy(made, l)
	copy(made[n:], more)
	return made
}

// All reports whether all elements of a list are right.
func All[T any](l []T, right func(T) bool) bool {
	for _, x := range l {
		if !right(x) {
			return false
		}
	}
	return true
}
