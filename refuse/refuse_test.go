package refuse_test

import (
	"testing"

	"deltaworks/api"
	"deltaworks/refuse"
)

// TestAttempt: what is made is returned without an error; of what is refused the error alone.
func TestAttempt(t *testing.T) {
	if n, e := refuse.Attempt(func() int { return 7 }); n != 7 || e != api.OK {
		t.Errorf("%d, %d", n, e)
	}
	for e := api.ErrArg; e <= api.ErrGone; e++ {
		n, err := refuse.Attempt(func() int {
			refuse.Unless(true, api.ErrForm)
			refuse.Unless(false, e)
			return 7
		})
		if n != 0 || err != e {
			t.Errorf("%d: %d, %d", e, n, err)
		}
	}
}

// TestAttemptWithin: what is refused within an attempt is not refused in the one around it.
func TestAttemptWithin(t *testing.T) {
	n, e := refuse.Attempt(func() api.Errno {
		_, within := refuse.Attempt(func() int { return refuse.Got(7, api.ErrFull) })
		return within
	})
	if n != api.ErrFull || e != api.OK {
		t.Errorf("%d, %d", n, e)
	}
}

// TestGot: a call without an error returns, one with an error refuses with it.
func TestGot(t *testing.T) {
	if n, e := refuse.Attempt(func() int { return refuse.Got(7, api.OK) }); n != 7 || e != api.OK {
		t.Errorf("%d, %d", n, e)
	}
	if n, e := refuse.Attempt(func() int { return refuse.Got(7, api.ErrState) }); n != 0 || e != api.ErrState {
		t.Errorf("%d, %d", n, e)
	}
}

// TestOtherPanics: P1: no panic comes out, whatever it is.
func TestOtherPanics(t *testing.T) {
	n, e := refuse.Attempt(func() int {
		var none []int
		return none[len(none)]
	})
	if n != 0 || e != api.ErrArg {
		t.Errorf("%d, %d", n, e)
	}
}
