package zset_test

import (
	"testing"

	"deltaworks/api"
	"deltaworks/value"
	"deltaworks/zset"
)

// TestCheck: P2.1.
func TestCheck(t *testing.T) {
	for i, z := range []api.Zset{
		nil, {}, first(), second(), each(1, rising()...), each(low, rising()...), each(high, num(1)), each(-1, tower(6)), words(-10, 20), words(0, 20000),
	} {
		if e := zset.Check(z); e != api.OK {
			t.Errorf("valid %d: %d", i, e)
		}
	}
	for i, z := range invalid() {
		if e := zset.Check(z); e != api.ErrArg {
			t.Errorf("invalid %d: %d", i, e)
		}
	}
	for i, z := range long() {
		if e := zset.Check(z); e != api.ErrLong {
			t.Errorf("long %d: %d", i, e)
		}
	}
}

// long returns collections that are too long, one of them not valid, too.
func long() []api.Zset {
	return []api.Zset{words(0, 20001), append(items(it(1, 0)), words(0, 20000)...), append(words(0, 20000), row(tower(7), 1)), times(30000, it(1, 1))}
}

// TestTyped: P2.3.
func TestTyped(t *testing.T) {
	word, letters := kind(api.TypeInt), kind(api.TypeText)
	pair := kind(api.TypeTuple, word, letters)
	sum := kind(api.TypeSum, word, pair)
	for i, x := range []struct {
		z api.Zset
		t api.Type
		e api.Errno
	}{
		{first(), word, api.OK},
		{first(), letters, api.ErrType},
		{first(), pair, api.ErrType},
		{nil, word, api.OK},
		{nil, sum, api.OK},
		{each(-1, text(""), text("a")), letters, api.OK},
		{each(1, num(1), text("a")), word, api.ErrType},
		{each(1, num(1), text("a")), letters, api.ErrType},
		{each(1, tuple(num(1), text(""))), pair, api.OK},
		{each(1, tuple(num(1), num(1))), pair, api.ErrType},
		{each(1, tag(0, num(5)), tag(1, tuple(num(1), text("x")))), sum, api.OK},
		{each(1, tag(0, num(5)), tag(2, num(5))), sum, api.ErrType},
		{words(0, 20000), word, api.OK},
		{append(words(0, 19999), row(text(""), 1)), word, api.ErrType},
		{nil, kind(9), api.ErrArg},
		{first(), kind(-1), api.ErrArg},
		{first(), kind(api.TypeSum), api.ErrArg},
		{each(1, num(1), text("a")), kind(api.TypeInt, word), api.ErrArg},
		{items(it(2, 1), it(1, 1)), word, api.ErrArg},
		{items(row(text("a"), 0)), word, api.ErrArg},
		{each(1, tower(7)), word, api.ErrArg},
		{words(0, 20001), word, api.ErrLong},
		{words(0, 20001), letters, api.ErrLong},
		{words(0, 20001), kind(9), api.ErrLong},
	} {
		if e := zset.Typed(x.z, x.t); e != x.e {
			t.Errorf("%d: %d", i, e)
		}
	}
}

// TestCount: P2.4, of Count.
func TestCount(t *testing.T) {
	rows := rising()
	for left := range rows {
		var z api.Zset
		for i, v := range rows {
			if i != left {
				z = append(z, row(v, i-30))
			}
		}
		for i, v := range rows {
			want := i - 30
			if i == left {
				want = 0
			}
			if n, e := zset.Count(z, v); n != want || e != api.OK {
				t.Errorf("%d, %d: %d, %d", left, i, n, e)
			}
		}
	}
	for i, x := range []struct {
		z   api.Zset
		row api.Value
		n   int
		e   api.Errno
	}{
		{first(), num(2), -1, api.OK},
		{first(), num(9), 0, api.OK},
		{nil, num(1), 0, api.OK},
		{each(low, num(1)), num(1), low, api.OK},
		{words(0, 20000), num(19999), 1, api.OK},
		{words(0, 20000), num(20000), 0, api.OK},
		{first(), num(1 << 40), 0, api.ErrArg},
		{nil, tower(7), 0, api.ErrArg},
		{items(it(1, 3), it(1, 3)), num(1), 0, api.ErrArg},
		{words(0, 20001), num(1 << 40), 0, api.ErrLong},
	} {
		if n, e := zset.Count(x.z, x.row); n != x.n || e != x.e {
			t.Errorf("%d: %d, %d", i, n, e)
		}
	}
}

// TestTotal: P2.4, of Total.
func TestTotal(t *testing.T) {
	for i, x := range []struct {
		z api.Zset
		n int
	}{
		{first(), 2}, {second(), 2}, {nil, 0}, {items(it(1, 3), it(2, -3)), 0}, {each(-1, rising()...), -len(rising())}, {words(5, 20000), 20000},
		{items(it(1, high), it(2, 1)), low}, {each(low, num(1), num(2)), 0}, {items(it(1, low), it(2, -1)), high},
	} {
		if n, e := zset.Total(x.z); n != x.n || e != api.OK {
			t.Errorf("%d: %d, %d", i, n, e)
		}
	}
}

// TestRange: P2.10, of Range.
func TestRange(t *testing.T) {
	for i, x := range []struct {
		z         api.Zset
		low, high api.Value
		want      api.Zset
		e         api.Errno
	}{
		{first(), num(2), num(5), items(it(2, -1)), api.OK},
		{first(), num(1), num(6), first(), api.OK},
		{first(), num(0), num(1), nil, api.OK},
		{first(), num(5), num(5), nil, api.OK},
		{first(), num(3), num(4), nil, api.OK},
		{first(), num(5), num(2), nil, api.OK},
		{first(), num(9), num(1), nil, api.OK},
		{first(), num(6), text(""), nil, api.OK},
		{first(), num(api.WordLow), text(""), first(), api.OK},
		{first(), text(""), tuple(), nil, api.OK},
		{nil, num(1), num(2), nil, api.OK},
		{words(0, 20000), num(100), num(103), words(100, 3), api.OK},
		{first(), num(1 << 40), num(2), nil, api.ErrArg},
		{first(), num(1), num(1 << 40), nil, api.ErrArg},
		{nil, num(1), tower(7), nil, api.ErrArg},
		{items(it(1, 0)), num(1), num(2), nil, api.ErrArg},
		{words(0, 20001), num(1 << 40), num(1), nil, api.ErrLong},
		{words(0, 20001), num(1), num(1 << 40), nil, api.ErrLong},
	} {
		if z, e := zset.Range(x.z, x.low, x.high); !same(z, x.want) || e != x.e {
			t.Errorf("%d: %v, %d", i, z, e)
		}
	}
}

// TestRangesOfAllKinds: P2.10, of Range, with each row, and what stands between two rows, as a limit.
func TestRangesOfAllKinds(t *testing.T) {
	rows := rising()
	var z api.Zset
	for i, v := range rows {
		if i%2 == 0 {
			z = append(z, row(v, i+1))
		}
	}
	for _, from := range rows {
		for _, to := range rows {
			var want api.Zset
			for _, x := range z {
				if must(value.Compare(x.Row, from)) >= 0 && must(value.Compare(x.Row, to)) < 0 {
					want = append(want, x)
				}
			}
			if got, e := zset.Range(z, from, to); !same(got, want) || e != api.OK {
				t.Errorf("%v, %v: %v, %d", from, to, got, e)
			}
		}
	}
}
