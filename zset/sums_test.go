package zset_test

import (
	"math/rand"
	"slices"
	"testing"

	"deltaworks/api"
	"deltaworks/zset"
)

// TestAdd: P2.5, of two collections.
func TestAdd(t *testing.T) {
	for i, x := range []struct {
		a, b, sum api.Zset
	}{
		{first(), second(), items(it(2, 2), it(5, 1), it(7, 1))},
		{first(), nil, first()},
		{nil, second(), second()},
		{nil, nil, nil},
		{first(), first(), items(it(1, 4), it(2, -2), it(5, 2))},
		{first(), items(it(1, -2), it(2, 1), it(5, -1)), nil},
		{items(it(1, 1), it(3, 1)), items(it(2, 1), it(4, 1)), words(1, 4)},
		{words(1, 3), words(4, 3), words(1, 6)},
		{words(4, 3), words(1, 3), words(1, 6)},
		{each(1, num(1), text("b"), tag(0, num(1))), each(2, text("a"), text("b"), tuple()), items(it(1, 1), row(text("a"), 2), row(text("b"), 3), row(tuple(), 2), row(tag(0, num(1)), 1))},
		{each(1<<62, num(1)), each(1<<62, num(1)), each(low, num(1))},
		{each(low, num(1)), each(low, num(1)), nil},
		{each(high, num(1)), each(2, num(1)), each(low+1, num(1))},
		{words(0, 10000), words(10000, 10000), words(0, 20000)},
		{words(0, 20000), api.Zset{}, words(0, 20000)},
	} {
		if z, e := zset.Add(x.a, x.b); !same(z, x.sum) || e != api.OK {
			t.Errorf("%d: %v, %d", i, z, e)
		}
		if z, e := zset.Sum([]api.Zset{x.a, x.b}); !same(z, x.sum) || e != api.OK {
			t.Errorf("Sum %d: %v, %d", i, z, e)
		}
	}
}

// TestFull: P2.5 and P2.8, of sums that have just as many rows as they can have, or one more.
func TestFull(t *testing.T) {
	for i, x := range []struct {
		a, b api.Zset
		n    int
		e    api.Errno
	}{
		{words(0, 20000), each(1, num(-1)), 0, api.ErrFull},
		{words(0, 20000), each(1, num(20000)), 0, api.ErrFull},
		{each(1, num(-1)), words(0, 20000), 0, api.ErrFull},
		{words(0, 10001), words(10001, 10000), 0, api.ErrFull},
		{words(0, 20000), words(20000, 20000), 0, api.ErrFull},
		{words(0, 10000), words(10000, 10000), 20000, api.OK},
		{words(0, 20000), words(0, 20000), 20000, api.OK},
		{words(0, 20000), items(it(-1, 1), it(19999, -1)), 20000, api.OK},
		{words(0, 20000), items(it(0, -1), it(20000, 1)), 20000, api.OK},
		{words(0, 20000), items(it(0, -1), it(20000, 1), it(20001, 1)), 0, api.ErrFull},
	} {
		z, e := zset.Add(x.a, x.b)
		y, f := zset.Sum([]api.Zset{x.a, x.b})
		flips, g := zset.Flips(x.a, x.b)
		if len(z) != x.n || e != x.e || !same(y, z) || f != x.e || g != x.e || g != api.OK && len(flips) > 0 {
			t.Errorf("%d: %d, %d, %d, %d, %d", i, len(z), e, len(y), f, g)
		}
	}
	if flips, e := zset.Flips(words(0, 20000), each(-1, num(-1))); len(flips) > 0 || e != api.ErrFull {
		t.Errorf("flips nothing: %v, %d", flips, e)
	}
}

// TestSum: P2.5, of any number of collections.
func TestSum(t *testing.T) {
	big := words(0, 20000)
	less := words(20000, 20000)
	for i := range less {
		less[i].N = -1
	}
	for i, x := range []struct {
		l   []api.Zset
		sum api.Zset
		e   api.Errno
	}{
		{nil, nil, api.OK},
		{[]api.Zset{}, nil, api.OK},
		{[]api.Zset{nil}, nil, api.OK},
		{[]api.Zset{nil, {}, nil}, nil, api.OK},
		{[]api.Zset{first()}, first(), api.OK},
		{[]api.Zset{first(), second(), first()}, items(it(1, 2), it(2, 1), it(5, 2), it(7, 1)), api.OK},
		{[]api.Zset{big, each(1, num(-1)), each(-1, num(5))}, slices.Concat(each(1, num(-1)), words(0, 5), words(6, 19994)), api.OK},
		{[]api.Zset{big, words(20000, 20000), words(40000, 5), less, each(-1, num(40000), num(40001), num(40002), num(40003), num(40004))}, big, api.OK},
		{[]api.Zset{big, words(20000, 20000), words(40000, 1), less}, nil, api.ErrFull},
		{[]api.Zset{big, each(1, num(-1))}, nil, api.ErrFull},
		{times(64, each(1<<58, num(1))), nil, api.OK},
		{times(65, each(1<<58, num(1))), each(1<<58, num(1)), api.OK},
		{times(2000, first()), items(it(1, 4000), it(2, -2000), it(5, 2000)), api.OK},
	} {
		if z, e := zset.Sum(x.l); !same(z, x.sum) || e != x.e {
			t.Errorf("%d: %d rows, %d", i, len(z), e)
		}
	}
}

// TestSumAny: P2.5, of many collections, by another count of the same.
func TestSumAny(t *testing.T) {
	r := rand.New(rand.NewSource(2))
	for i := range 300 {
		a, b, c := anyZset(r), anyZset(r), anyZset(r)
		two, three := tallied(tally(slices.Concat(a, b))), tallied(tally(slices.Concat(a, b, c)))
		if !same(must(zset.Add(a, b)), two) || !same(must(zset.Sum([]api.Zset{a, b, c})), three) {
			t.Fatalf("%d: %v, %v, %v", i, a, b, c)
		}
	}
}

// TestFlips: P2.8, of each count that becomes each other one.
func TestFlips(t *testing.T) {
	counts := []int{low, low + 1, -2, -1, 0, 1, 2, high - 1, high}
	once := func(n int) int {
		if n > 0 {
			return 1
		}
		return 0
	}
	for _, n := range counts {
		for _, m := range counts {
			a := tallied(map[string]int{"1": n, "2": 1})
			b := tallied(map[string]int{"0": 1, "1": m})
			want := tallied(map[string]int{"0": 1, "1": once(n+m) - once(n)})
			if z, e := zset.Flips(a, b); !same(z, want) || e != api.OK {
				t.Errorf("%d, %d: %v, %d", n, m, z, e)
			}
		}
	}
	for i, x := range []struct{ z, change, flips api.Zset }{
		{first(), second(), items(it(1, -1), it(2, 1), it(7, 1))},
		{first(), nil, nil},
		{nil, first(), each(1, num(1), num(5))},
		{nil, nil, nil},
		{words(0, 20000), words(0, 20000), nil},
		{words(0, 20000), each(-1, num(3)), each(-1, num(3))},
	} {
		if z, e := zset.Flips(x.z, x.change); !same(z, x.flips) || e != api.OK {
			t.Errorf("%d: %v, %d", i, z, e)
		}
	}
}

// TestApart: P2.10, of Apart.
func TestApart(t *testing.T) {
	for i, x := range []struct {
		a, b api.Zset
		n    int
	}{
		{first(), second(), 4},
		{first(), first(), 0},
		{first(), nil, 3},
		{nil, first(), 3},
		{nil, nil, 0},
		{each(1, num(1)), each(2, num(1)), 1},
		{each(low, num(1)), each(high, num(1)), 1},
		{each(low, num(1)), each(low, num(1)), 0},
		{each(1, text("a")), each(1, tuple(text("a"))), 2},
		{words(0, 20000), words(0, 20000), 0},
		{words(0, 20000), words(20000, 20000), 40000},
		{words(0, 20000), words(1, 20000), 2},
	} {
		if n, e := zset.Apart(x.a, x.b); n != x.n || e != api.OK {
			t.Errorf("%d: %d, %d", i, n, e)
		}
	}
}
