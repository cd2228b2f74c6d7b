package edit

import "deltaworks/api"

// refused is what is panicked with where something is refused, and the error that says why.
type refused struct{ why api.Errno }

// need refuses with the error e what is not so.
func need(so bool, e api.Errno) {
	if !so {
		panic(refused{e})
	}
}

// attempt returns what from makes, or the error with which it is refused.
func attempt[T any](from func() T) (made T, e api.Errno) {
	defer func() {
		if p := recover(); p != nil {
			e = api.ErrArg // nothing else panics, unless an argument is altered meanwhile
			if r, ok := p.(refused); ok {
				e = r.why
			}
		}
	}()
	return from(), api.OK
}
