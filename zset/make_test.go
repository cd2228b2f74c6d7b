package zset_test

import (
	"math/rand"
	"slices"
	"testing"

	"deltaworks/api"
	"deltaworks/zset"
)

// TestMake: P2.2.
func TestMake(t *testing.T) {
	backwards := words(0, 20000)
	slices.Reverse(backwards)
	all := slices.Concat(backwards, words(0, 20000), backwards, items(it(20000, 1), it(20000, -1)))
	thrice := words(0, 20000)
	for i := range thrice {
		thrice[i].N = 3
	}
	mixed := rising()
	slices.Reverse(mixed)
	for i, x := range []struct {
		l    []api.Item
		want api.Zset
		e    api.Errno
	}{
		{items(it(5, 1), it(1, 2), it(2, -1), it(5, 3), it(5, -3)), first(), api.OK},
		{nil, nil, api.OK},
		{items(it(1, 0)), nil, api.OK},
		{items(it(1, 0), it(2, 3), it(2, -3)), nil, api.OK},
		{items(it(2, 3), it(1, 1), it(2, -3), it(2, 4)), items(it(1, 1), it(2, 4)), api.OK},
		{each(1, mixed...), each(1, rising()...), api.OK},
		{each(1<<62, num(1), num(1)), each(low, num(1)), api.OK},
		{each(low, num(1), num(1)), nil, api.OK},
		{items(it(1, high), it(1, 1)), each(low, num(1)), api.OK},
		{items(it(1, low), it(1, -1)), each(high, num(1)), api.OK},
		{items(row(tuple(), 1), api.Item{Row: api.Value{Kind: api.ValueTuple, L: []api.Value{}}, N: 1}), each(2, tuple()), api.OK},
		{each(1, tower(6)), each(1, tower(6)), api.OK},
		{words(0, 20000), words(0, 20000), api.OK},
		{backwards, words(0, 20000), api.OK},
		{all, thrice, api.OK},
		{append(words(0, 20000), it(20000, 0)), words(0, 20000), api.OK},
		{append(words(0, 20001), it(0, -1)), words(1, 20000), api.OK},
		{words(0, 20001), nil, api.ErrFull},
		{each(-1, append(times(30000, num(7)), words(8, 20000)[0].Row)...), items(it(7, -30000), it(8, -1)), api.OK},
		{append(words(0, 20001), it(1<<40, 1)), nil, api.ErrArg},
		{append(items(it(1<<40, 1)), words(0, 20001)...), nil, api.ErrArg},
	} {
		if z, e := zset.Make(x.l); !same(z, x.want) || e != x.e {
			t.Errorf("%d: %d items, %d", i, len(z), e)
		}
	}
	for i, v := range invalidRows() {
		for _, l := range [][]api.Item{each(1, v), each(0, v), each(1, num(1), v), each(1, v, num(1)), items(row(v, 1), row(v, -1))} {
			if z, e := zset.Make(l); len(z) > 0 || e != api.ErrArg {
				t.Errorf("invalid %d: %v, %d", i, z, e)
			}
		}
	}
}

// TestMakeAnyItems: P2.2, of many lists, by another count of the same.
func TestMakeAnyItems(t *testing.T) {
	r := rand.New(rand.NewSource(1))
	for i := range 300 {
		l := anyItems(r, r.Intn(60))
		z, e := zset.Make(l)
		if !same(z, tallied(tally(l))) || e != api.OK || zset.Check(z) != api.OK {
			t.Fatalf("%d: %v: %v, %d", i, l, z, e)
		}
		slices.Reverse(l)
		if !same(must(zset.Make(l)), z) {
			t.Fatalf("%d: backwards", i)
		}
	}
}
