package value_test

import (
	"math/rand"
	"slices"
	"testing"

	"deltaworks/api"
	"deltaworks/value"
)

// TestCompare: P1.3.
func TestCompare(t *testing.T) {
	l := rising()
	for i, v := range l {
		for k, w := range l {
			want := min(1, max(-1, i-k))
			if n, e := value.Compare(v, w); n != want || e != api.OK {
				t.Errorf("%d, %d: %d, %d", i, k, n, e)
			}
		}
	}
	for i, v := range invalid() {
		a, e := value.Compare(v, num(0))
		b, f := value.Compare(sample, v)
		if a != 0 || e != api.ErrArg || b != 0 || f != api.ErrArg {
			t.Errorf("invalid %d: %d, %d, %d, %d", i, a, e, b, f)
		}
	}
}

// TestLeast: P1.4.
func TestLeast(t *testing.T) {
	for i, x := range []struct {
		t     api.Type
		e     api.Errno
		least api.Value
	}{
		{integer, api.OK, num(api.WordLow)},
		{letters, api.OK, text("")},
		{none, api.OK, tuple()},
		{sampleType, api.OK, tuple(num(api.WordLow), text(""), tuple(), tag(0, text("")))},
		{kind(api.TypeSum, kind(api.TypeSum, none, integer), integer), api.OK, tag(0, tag(0, tuple()))},
		{kind(api.TypeTuple, times(8, none)...), api.OK, tuple(times(8, tuple())...)},
		{kind(api.TypeSum), api.ErrArg, api.Value{}},
		{kind(api.TypeText, none), api.ErrArg, api.Value{}},
		{kind(4), api.ErrArg, api.Value{}},
		{kind(-1), api.ErrArg, api.Value{}},
		{typeTower(7), api.ErrArg, api.Value{}},
		{typeLoop(2), api.ErrArg, api.Value{}},
	} {
		if v, e := value.Least(x.t); !same(v, x.least) || e != x.e {
			t.Errorf("%d: %v, %d", i, v, e)
		}
	}
}

// TestOneOrder: P1.8.
func TestOneOrder(t *testing.T) {
	l := manyValues(t)
	for i, v := range l {
		for k, w := range l {
			a, _ := value.Compare(v, w)
			b, _ := value.Compare(w, v)
			if a != -b || (a == 0) != same(v, w) {
				t.Fatalf("%d, %d: %d, %d", i, k, a, b)
			}
		}
	}
	slices.SortStableFunc(l, func(a, b api.Value) int {
		n, _ := value.Compare(a, b)
		return n
	})
	for i, v := range l {
		for k, w := range l[i+1:] {
			if n, _ := value.Compare(v, w); n > 0 || n == 0 && !same(v, l[i+1]) {
				t.Fatalf("sorted %d, %d: %d", i, i+1+k, n)
			}
		}
	}
}

// TestEachTypeHasAValue: P1.11, and P1.2 and P1.4 of many types.
func TestEachTypeHasAValue(t *testing.T) {
	r := rand.New(rand.NewSource(3))
	for i, u := range manyTypes() {
		v, e := value.Least(u)
		if e != api.OK || !value.Is(v, u) {
			t.Fatalf("%d: %v, %d", i, v, e)
		}
		for range 20 {
			w := randomOf(r, u)
			if n, e := value.Compare(v, w); n > 0 || e != api.OK || !value.Is(w, u) {
				t.Fatalf("%d: %v, %v: %d, %d", i, v, w, n, e)
			}
		}
		if u.Kind == api.TypeTuple {
			for k, part := range u.L {
				if w, _ := value.Least(part); !same(v.L[k], w) {
					t.Fatalf("%d, part %d: %v", i, k, w)
				}
			}
		}
	}
}

// TestSizes: P1.11, of sizes.
func TestSizes(t *testing.T) {
	for i, v := range manyValues(t) {
		want := 1
		for _, part := range v.L {
			n, e := value.Size(part)
			if e != api.OK {
				t.Fatalf("%d: %d", i, e)
			}
			want += n
		}
		if n, e := value.Size(v); n != want || e != api.OK {
			t.Errorf("%d: %d, not %d, %d", i, n, want, e)
		}
	}
}
