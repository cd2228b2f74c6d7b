package zset_test

import (
	"testing"

	"deltaworks/api"
	"deltaworks/zset"
)

// extremes is a collection with the limits of counts.
func extremes() api.Zset {
	return items(it(1, low), it(2, low+1), it(3, -1), it(4, 1), it(5, high))
}

// TestNeg: P2.6, of Neg.
func TestNeg(t *testing.T) {
	for i, x := range []struct{ z, want api.Zset }{
		{first(), items(it(1, -2), it(2, 1), it(5, -1))},
		{nil, nil},
		{extremes(), items(it(1, low), it(2, high), it(3, 1), it(4, -1), it(5, low+1))},
		{each(1, rising()...), each(-1, rising()...)},
	} {
		if z, e := zset.Neg(x.z); !same(z, x.want) || e != api.OK {
			t.Errorf("%d: %v, %d", i, z, e)
		}
	}
}

// TestScale: P2.6, of Scale.
func TestScale(t *testing.T) {
	for i, x := range []struct {
		z    api.Zset
		n    int
		want api.Zset
	}{
		{first(), 3, items(it(1, 6), it(2, -3), it(5, 3))},
		{first(), 1, first()},
		{first(), 0, nil},
		{first(), -2, items(it(1, -4), it(2, 2), it(5, -2))},
		{nil, 7, nil},
		{items(it(1, 1<<62), it(2, 1)), 4, each(4, num(2))},
		{items(it(1, 1<<32), it(2, 3)), 1 << 32, each(3<<32, num(2))},
		{extremes(), 2, items(it(2, 2), it(3, -2), it(4, 2), it(5, -2))},
		{extremes(), -1, items(it(1, low), it(2, high), it(3, 1), it(4, -1), it(5, low+1))},
		{first(), low, items(it(2, low), it(5, low))},
		{first(), high, items(it(1, -2), it(2, low+1), it(5, high))},
		{each(1, rising()...), 5, each(5, rising()...)},
		{words(0, 20000), 1, words(0, 20000)},
	} {
		if z, e := zset.Scale(x.z, x.n); !same(z, x.want) || e != api.OK {
			t.Errorf("%d: %v, %d", i, z, e)
		}
	}
}

// TestSplit: P2.7.
func TestSplit(t *testing.T) {
	for i, x := range []struct{ z, more, less, once api.Zset }{
		{first(), items(it(1, 2), it(5, 1)), each(1, num(2)), each(1, num(1), num(5))},
		{nil, nil, nil, nil},
		{extremes(), items(it(4, 1), it(5, high)), items(it(1, low), it(2, high), it(3, 1)), each(1, num(4), num(5))},
		{each(-3, rising()...), nil, each(3, rising()...), nil},
		{each(3, rising()...), each(3, rising()...), nil, each(1, rising()...)},
	} {
		more, less, e := zset.Split(x.z)
		once, f := zset.Once(x.z)
		if !same(more, x.more) || !same(less, x.less) || !same(once, x.once) || e != api.OK || f != api.OK {
			t.Errorf("%d: %v, %v, %d, %v, %d", i, more, less, e, once, f)
		}
	}
}

// TestPair: P2.9.
func TestPair(t *testing.T) {
	x, five := text("x"), tower(5)
	large := tuple(wide(8), wide(8), wide(8), wide(8), wide(8), num(0), num(0), num(0)) // 49 values
	ten, eleven := tuple(wide(8)), tuple(wide(8), num(0))
	for i, c := range []struct {
		a, b, want api.Zset
		e          api.Errno
	}{
		{items(it(1, 2), it(3, -1)), each(3, x), items(row(tuple(num(1), x), 6), row(tuple(num(3), x), -3)), api.OK},
		{each(2, num(1), x), items(it(1, 1), row(tuple(), -1)), items(row(tuple(num(1), num(1)), 2), row(tuple(num(1), tuple()), -2), row(tuple(x, num(1)), 2), row(tuple(x, tuple()), -2)), api.OK},
		{each(1, text("a"), text("aa")), each(1, num(-1), tuple()), each(1, tuple(text("a"), num(-1)), tuple(text("a"), tuple()), tuple(text("aa"), num(-1)), tuple(text("aa"), tuple())), api.OK},
		{each(1, tuple(), tuple(tuple())), each(1, num(5), tuple()), each(1, tuple(tuple(), num(5)), tuple(tuple(), tuple()), tuple(tuple(tuple()), num(5)), tuple(tuple(tuple()), tuple())), api.OK},
		{each(1, tag(3, num(1))), each(1, tag(2, x)), each(1, tuple(tag(3, num(1)), tag(2, x))), api.OK},
		{first(), nil, nil, api.OK},
		{nil, first(), nil, api.OK},
		{nil, nil, nil, api.OK},
		{words(0, 20000), nil, nil, api.OK},
		{nil, each(1, tower(6)), nil, api.OK},
		{each(1<<40, num(1)), items(it(2, 1<<40), it(3, 1)), each(1<<40, tuple(num(1), num(3))), api.OK},
		{each(low, num(1)), each(-1, num(1)), each(low, tuple(num(1), num(1))), api.OK},
		{each(1, five), each(1, five), each(1, tuple(five, five)), api.OK},
		{each(1, tower(6)), each(1, num(1)), nil, api.ErrFull},
		{each(1, num(1)), each(1, tower(6)), nil, api.ErrFull},
		{each(1, num(1), num(2), tower(6)), each(1, num(1)), nil, api.ErrFull},
		{each(1, num(1)), each(1, num(1), num(2), tower(6)), nil, api.ErrFull},
		{each(1<<40, tower(6)), each(1<<40, num(1)), nil, api.ErrFull},
		{each(1, large), each(1, ten), each(1, tuple(large, ten)), api.OK},
		{each(1, ten), each(1, large), each(1, tuple(ten, large)), api.OK},
		{each(1, large), each(1, eleven), nil, api.ErrFull},
		{each(1, eleven), each(1, large), nil, api.ErrFull},
		{words(0, 201), words(0, 100), nil, api.ErrFull},
		{words(0, 100), words(0, 201), nil, api.ErrFull},
		{words(0, 20000), words(0, 2), nil, api.ErrFull},
		{words(0, 20000), words(0, 20000), nil, api.ErrFull},
		{words(0, 149), words(0, 135), nil, api.ErrFull},
	} {
		if z, e := zset.Pair(c.a, c.b); !same(z, c.want) || e != c.e {
			t.Errorf("%d: %d pairs, %d", i, len(z), e)
		}
	}
}

// TestMostPairs: P2.9, of as many pairs as there can be.
func TestMostPairs(t *testing.T) {
	for i, n := range []int{1, 100, 200, 20000} {
		z, e := zset.Pair(words(0, n), words(0, 20000/n))
		if len(z) != 20000 || e != api.OK || zset.Check(z) != api.OK {
			t.Errorf("%d: %d, %d", i, len(z), e)
		}
	}
}
