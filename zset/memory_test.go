package zset_test

import (
	"math/rand"
	"slices"
	"testing"

	"deltaworks/api"
	"deltaworks/zset"
)

func cloneValue(v api.Value) api.Value {
	l := make([]api.Value, 0, len(v.L))
	for _, part := range v.L {
		l = append(l, cloneValue(part))
	}
	v.L = l
	return v
}

func clone(z api.Zset) (l api.Zset) {
	for _, x := range z {
		l = append(l, row(cloneValue(x.Row), x.N))
	}
	return l
}

// spoil alters all items, and all parts of their rows, also those that stand behind the end of a list.
func spoil(z api.Zset) {
	z = z[:cap(z)]
	for i := range z {
		spoilValue(z[i].Row)
		z[i] = row(text("spoilt"), 77)
	}
}

func spoilValue(v api.Value) {
	l := v.L[:cap(v.L)]
	for i := range l {
		spoilValue(l[i])
		l[i] = text("spoilt")
	}
}

// made returns all that functions make of two collections.
func made(t *testing.T, a, b api.Zset) []api.Zset {
	more, rest, e := zset.Split(a)
	if e != api.OK {
		t.Fatalf("%d", e)
	}
	both := slices.Concat(a, b)
	ends := []api.Value{num(api.WordLow), tag(7, tag(7, tag(7, num(0))))}
	return []api.Zset{
		more, rest, add(a, b), add(a, nil), add(nil, a), neg(a), scale(a, 3), scale(a, 1), once(a), flips(a, b), flips(nil, b), pair(a, b), must(zset.Make(both)), must(zset.Sum([]api.Zset{a, b, a})), must(zset.Sum([]api.Zset{a})), must(zset.Range(a, ends[0], ends[1])),
	}
}

// TestArgumentsAreOnlyRead: P2.11, of arguments.
func TestArgumentsAreOnlyRead(t *testing.T) {
	r := rand.New(rand.NewSource(9))
	for range 50 {
		a, b := anyZset(r), anyZset(r)
		keptA, keptB := clone(a), clone(b)
		made(t, a, b)
		zset.Check(a)
		zset.Typed(a, kind(api.TypeInt))
		zset.Total(a)
		zset.Count(a, num(1))
		zset.Apart(a, b)
		l := anyItems(r, 30)
		keptL := clone(l)
		zset.Make(l)
		if !same(a, keptA) || !same(b, keptB) || !same(l, keptL) {
			t.Fatalf("%v, %v", a, b)
		}
	}
}

// TestResultsAreNew: P2.11, of results: what is done with one alters no argument and no other result; and no argument is retained.
func TestResultsAreNew(t *testing.T) {
	r := rand.New(rand.NewSource(10))
	for range 20 {
		a, b := anyZset(r), anyZset(r)
		keptA, keptB := clone(a), clone(b)
		results := made(t, a, b)
		var kept []api.Zset
		for _, z := range results {
			kept = append(kept, clone(z))
		}
		for i, z := range results {
			spoil(z)
			for k := range results[i+1:] {
				if !same(results[i+1+k], kept[i+1+k]) {
					t.Fatalf("the results %d and %d share memory", i, i+1+k)
				}
			}
		}
		if !same(a, keptA) || !same(b, keptB) {
			t.Fatal("a result shares memory with an argument")
		}
		for i, z := range made(t, a, b) {
			if !same(z, kept[i]) {
				t.Fatalf("the result %d is another one now", i)
			}
		}
		results = made(t, a, b)
		spoil(a)
		spoil(b)
		for i, z := range results {
			if !same(z, kept[i]) {
				t.Fatalf("the result %d shares memory with an argument", i)
			}
		}
	}
}

// TestRowsAreApart: P2.11: the rows of one result, and their parts, share no memory.
func TestRowsAreApart(t *testing.T) {
	shared := tuple(num(1), tuple(num(2)))
	a := each(1, num(1), tuple(shared, shared), tag(2, shared))
	for i, z := range append(made(t, a, a), must(zset.Make(slices.Concat(a, a)))) {
		before := clone(z)
		for k := range z {
			spoilValue(z[k].Row)
			before[k] = z[k]
			if !same(z, before) {
				t.Fatalf("%d: the row %d shares memory with another one", i, k)
			}
		}
	}
}

// TestPartsAreApart: P2.11: one part of a row shares no memory with another part.
func TestPartsAreApart(t *testing.T) {
	shared := tuple(num(1), num(2))
	for i, z := range []api.Zset{add(each(1, tuple(shared, shared)), nil), pair(each(1, shared), each(1, shared)), must(zset.Make(each(1, tuple(shared, shared))))} {
		spoilValue(z[0].Row.L[0])
		if !sameValue(z[0].Row.L[1], tuple(num(1), num(2))) {
			t.Errorf("%d: %v", i, z[0].Row)
		}
	}
}
