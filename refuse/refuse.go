// Package refuse is how layers refuse what they are given: with a panic, which ends where the call of the layer began. It is no layer itself.
package refuse

import "deltaworks/api"

// refused is what is panicked with where something is refused, and the error that says why.
type refused struct{ why api.Errno }

// Unless refuses with the error e what is not so.
func Unless(so bool, e api.Errno) {
	if !so {
		panic(refused{e})
	}
}

// Got returns what a call returned; an error of the call refuses with itself.
func Got[T any](x T, e api.Errno) T {
	Unless(e == api.OK, e)
	return x
}

// Attempt returns what from makes, or the error with which it is refused.
func Attempt[T any](from func() T) (made T, e api.Errno) {
	defer func() {
		if p := recover(); p != nil {
			e = api.ErrArg // nothing else panics, unless an argument is altered meanwhile
			if r, ok := p.(refused); ok {
				e = r.why
			}
		}
	}()
	return from(), api.OK
}
