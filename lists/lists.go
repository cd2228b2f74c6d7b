// Package lists makes lists of lists. It is no layer itself.
package lists

// Changed returns a list of what of makes of each element; without elements it is nil.
func Changed[T, U any](l []T, of func(T) U) []U {
	if len(l) == 0 {
		return nil
	}
	made := make([]U, len(l))
	for i, x := range l {
		made[i] = of(x)
	}
	return made
}

// All reports whether all elements of a list are right.
func All[T any](l []T, right func(T) bool) bool {
	for _, x := range l {
		if !right(x) {
			return false
		}
	}
	return true
}
