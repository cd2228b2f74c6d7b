package zset_test

import (
	"math/rand"
	"testing"

	"deltaworks/api"
	"deltaworks/value"
	"deltaworks/zset"
)

// anyThree gives three collections and two numbers to use, many times.
func anyThree(seed int64, use func(a, b, c api.Zset, n, m int)) {
	r := rand.New(rand.NewSource(seed))
	for range 200 {
		use(anyZset(r), anyZset(r), anyZset(r), anyCount(r), anyCount(r))
	}
}

func add(a, b api.Zset) api.Zset        { return must(zset.Add(a, b)) }
func neg(z api.Zset) api.Zset           { return must(zset.Neg(z)) }
func scale(z api.Zset, n int) api.Zset  { return must(zset.Scale(z, n)) }
func once(z api.Zset) api.Zset          { return must(zset.Once(z)) }
func flips(z, change api.Zset) api.Zset { return must(zset.Flips(z, change)) }
func pair(a, b api.Zset) api.Zset       { return must(zset.Pair(a, b)) }
func apart(a, b api.Zset) int           { return must(zset.Apart(a, b)) }
func less(a, b api.Zset) api.Zset       { return add(a, neg(b)) }
func agree(t *testing.T, a, b api.Zset) {
	t.Helper()
	if !same(a, b) || zset.Check(a) != api.OK {
		t.Fatalf("%v, not %v", a, b)
	}
}

// TestGroup: P2.12.
func TestGroup(t *testing.T) {
	anyThree(3, func(a, b, c api.Zset, n, m int) {
		agree(t, add(a, b), add(b, a))
		agree(t, add(add(a, b), c), add(a, add(b, c)))
		agree(t, must(zset.Sum([]api.Zset{a, b, c})), add(add(a, b), c))
		agree(t, must(zset.Sum([]api.Zset{c, a, b})), add(add(a, b), c))
		agree(t, must(zset.Sum([]api.Zset{a, nil, add(b, c)})), add(add(a, b), c))
		agree(t, add(a, nil), a)
		agree(t, add(nil, a), a)
		agree(t, add(a, neg(a)), nil)
		agree(t, neg(neg(a)), a)
		agree(t, scale(a, 1), a)
		agree(t, scale(a, n+m), add(scale(a, n), scale(a, m)))
		agree(t, scale(add(a, b), n), add(scale(a, n), scale(b, n)))
		agree(t, scale(scale(a, n), m), scale(a, n*m))
		if must(zset.Total(add(a, b))) != must(zset.Total(a))+must(zset.Total(b)) {
			t.Fatalf("totals of %v, %v", a, b)
		}
	})
}

// TestScaleIsCounted: P2.12: so many times is as many times added.
func TestScaleIsCounted(t *testing.T) {
	anyThree(4, func(a, _, _ api.Zset, _, _ int) {
		var sum api.Zset
		for n := range 6 {
			agree(t, scale(a, n), sum)
			agree(t, scale(a, -n), neg(sum))
			agree(t, must(zset.Sum(times(n, a))), sum)
			sum = add(sum, a)
		}
	})
}

// TestPairsAreCounted: P2.13.
func TestPairsAreCounted(t *testing.T) {
	anyThree(5, func(a, b, c api.Zset, n, _ int) {
		agree(t, pair(add(a, b), c), add(pair(a, c), pair(b, c)))
		agree(t, pair(c, add(a, b)), add(pair(c, a), pair(c, b)))
		agree(t, pair(scale(a, n), b), scale(pair(a, b), n))
		counts := tally(pair(a, b))
		for _, x := range a {
			for _, y := range b {
				if counts[must(value.Text(tuple(x.Row, y.Row)))] != x.N*y.N {
					t.Fatalf("%v, %v", x, y)
				}
			}
		}
	})
}

// TestOnceAndFlips: P2.14.
func TestOnceAndFlips(t *testing.T) {
	anyThree(6, func(a, b, c api.Zset, _, _ int) {
		agree(t, once(once(a)), once(a))
		more, rest, e := zset.Split(a)
		if e != api.OK {
			t.Fatalf("%v: %d", a, e)
		}
		agree(t, less(more, rest), a)
		agree(t, once(more), once(a))
		both := flips(a, b)
		agree(t, add(once(a), both), once(add(a, b)))
		agree(t, add(both, flips(add(a, b), c)), flips(a, add(b, c)))
		for _, x := range both {
			if x.N != 1 && x.N != -1 || must(zset.Count(b, x.Row)) == 0 {
				t.Fatalf("%v flips in %v, with %v", x, a, b)
			}
		}
	})
}

// TestApartIsADistance: P2.15.
func TestApartIsADistance(t *testing.T) {
	anyThree(7, func(a, b, c api.Zset, n, _ int) {
		if apart(a, a) != 0 || (apart(a, b) == 0) != same(a, b) || apart(a, b) != apart(b, a) {
			t.Fatalf("%v, %v: %d", a, b, apart(a, b))
		}
		if apart(a, b)+apart(b, c) < apart(a, c) || apart(a, b) != len(less(a, b)) {
			t.Fatalf("%v, %v, %v", a, b, c)
		}
		one := items(row(rising()[0], n))
		if n != 0 && apart(a, add(a, one)) != 1 {
			t.Fatalf("%v, with %v", a, one)
		}
	})
}

// TestRangesMakeTheWhole: P2.10: the rows ahead of a value, and those from it on, are all rows.
func TestRangesMakeTheWhole(t *testing.T) {
	anyThree(8, func(a, _, _ api.Zset, _, _ int) {
		start, end := num(api.WordLow), tag(7, tag(7, tag(7, num(0))))
		for _, v := range rising() {
			agree(t, append(must(zset.Range(a, start, v)), must(zset.Range(a, v, end))...), a)
		}
	})
}
