package zset_test

import (
	"testing"

	"deltaworks/api"
	"deltaworks/zset"
)

// result is what a function returned: whether it is nothing, and its error.
type result struct {
	nothing bool
	e       api.Errno
}

func ofZset(z api.Zset, e api.Errno) result { return result{len(z) == 0, e} }
func ofInt(n int, e api.Errno) result       { return result{n == 0, e} }
func ofError(e api.Errno) result            { return result{true, e} }

func ofSplit(more, less api.Zset, e api.Errno) result {
	return result{len(more) == 0 && len(less) == 0, e}
}

// ofOne calls each function of one collection, with other arguments that are not valid either.
func ofOne(z api.Zset) map[string]result {
	bad := num(1 << 40)
	return map[string]result{
		"Check":             ofError(zset.Check(z)),
		"Typed":             ofError(zset.Typed(z, kind(9))),
		"Typed, of a word":  ofError(zset.Typed(z, kind(api.TypeInt))),
		"Typed, of texts":   ofError(zset.Typed(z, kind(api.TypeText))),
		"Count":             ofInt(zset.Count(z, bad)),
		"Count, of a row":   ofInt(zset.Count(z, num(1))),
		"Total":             ofInt(zset.Total(z)),
		"Neg":               ofZset(zset.Neg(z)),
		"Scale":             ofZset(zset.Scale(z, 2)),
		"Scale by 0":        ofZset(zset.Scale(z, 0)),
		"Split":             ofSplit(zset.Split(z)),
		"Once":              ofZset(zset.Once(z)),
		"Range":             ofZset(zset.Range(z, bad, bad)),
		"Range, of nothing": ofZset(zset.Range(z, num(1), num(1))),
	}
}

// ofTwo calls each function of two collections.
func ofTwo(a, b api.Zset) map[string]result {
	return map[string]result{
		"Add":   ofZset(zset.Add(a, b)),
		"Sum":   ofZset(zset.Sum([]api.Zset{a, b})),
		"Flips": ofZset(zset.Flips(a, b)),
		"Pair":  ofZset(zset.Pair(a, b)),
		"Apart": ofInt(zset.Apart(a, b)),
	}
}

func expect(t *testing.T, i int, got map[string]result, e api.Errno) {
	t.Helper()
	for name, r := range got {
		if r.e != e || !r.nothing {
			t.Errorf("%d, %s: %t, %d", i, name, r.nothing, r.e)
		}
	}
}

// TestRefused: the errors that each function returns first, and nothing with them.
func TestRefused(t *testing.T) {
	deep, full := each(1, tower(6)), words(-20000, 20000)
	for i, z := range invalid() {
		expect(t, i, ofOne(z), api.ErrArg)
		for _, other := range []api.Zset{nil, first(), deep, items(it(1, 0))} {
			expect(t, i, ofTwo(z, other), api.ErrArg)
			expect(t, i, ofTwo(other, z), api.ErrArg)
		}
	}
	for i, z := range long() {
		expect(t, i, ofOne(z), api.ErrLong)
		for _, other := range []api.Zset{nil, first(), deep, full} {
			expect(t, i, ofTwo(z, other), api.ErrLong)
			expect(t, i, ofTwo(other, z), api.ErrLong)
		}
	}
	for i, z := range []api.Zset{items(it(1, 0)), items(it(2, 1), it(1, 1)), each(1, tower(7))} {
		expect(t, i, ofTwo(full, z), api.ErrArg)
		expect(t, i, ofTwo(z, full), api.ErrArg)
	}
}

// TestFirstErrorDecides: R1, of several collections that have errors.
func TestFirstErrorDecides(t *testing.T) {
	bad, far := items(it(1, 0)), words(0, 20001)
	expect(t, 0, ofTwo(bad, far), api.ErrArg)
	expect(t, 1, ofTwo(far, bad), api.ErrLong)
	full, more := words(0, 20000), words(20000, 1)
	for i, x := range []struct {
		l []api.Zset
		e api.Errno
	}{
		{[]api.Zset{bad, far}, api.ErrArg},
		{[]api.Zset{far, bad}, api.ErrLong},
		{[]api.Zset{first(), nil, bad, far}, api.ErrArg},
		{[]api.Zset{first(), nil, far, bad}, api.ErrLong},
		{[]api.Zset{full, more}, api.ErrFull},
		{[]api.Zset{full, more, bad}, api.ErrArg},
		{[]api.Zset{full, more, far}, api.ErrLong},
		{[]api.Zset{bad}, api.ErrArg},
		{[]api.Zset{far}, api.ErrLong},
	} {
		if z, e := zset.Sum(x.l); len(z) > 0 || e != x.e {
			t.Errorf("Sum %d: %d, %d", i, len(z), e)
		}
	}
}
