package types_test

import (
	"testing"

	"deltaworks/api"
	"deltaworks/refuse"
	"deltaworks/types"
)

func sum(l ...api.Type) api.Type { return api.Type{Kind: api.TypeSum, L: l} }

// some returns types, no two of them the same.
func some() []api.Type {
	w, s := types.Word(), types.Text()
	return []api.Type{w, s, types.Tuple(), types.Tuple(w), types.Tuple(s), types.Tuple(w, w), types.Tuple(w, s), types.Tuple(s, w), types.Tuple(types.Tuple(w), w), sum(w), sum(w, w), sum(types.Tuple(w, w)), types.Tuple(sum(w))}
}

// TestMade: words, texts and tuples have their types.
func TestMade(t *testing.T) {
	if w := types.Word(); w.Kind != api.TypeInt || w.L != nil {
		t.Error(w)
	}
	if s := types.Text(); s.Kind != api.TypeText || s.L != nil {
		t.Error(s)
	}
	parts := []api.Type{types.Word(), types.Text()}
	both := types.Tuple(parts...)
	parts[0] = types.Text()
	if both.Kind != api.TypeTuple || len(both.L) != 2 || both.L[0].Kind != api.TypeInt || both.L[1].Kind != api.TypeText {
		t.Error(both)
	}
	if none := types.Tuple(); none.Kind != api.TypeTuple || none.L != nil {
		t.Error(none)
	}
}

// TestSame: a type is the same as itself, and no other one is.
func TestSame(t *testing.T) {
	for i, a := range some() {
		for k, b := range some() {
			if types.Same(a, b) != (i == k) {
				t.Errorf("%v, %v", a, b)
			}
		}
	}
}

// TestIsValid: as layer 1 says.
func TestIsValid(t *testing.T) {
	for _, x := range some() {
		if !types.IsValid(x) {
			t.Error(x)
		}
	}
	for _, x := range []api.Type{sum(), {Kind: 4}, {Kind: api.TypeInt, L: some()[:1]}, types.Tuple(some()[:9]...)} {
		if types.IsValid(x) {
			t.Error(x)
		}
	}
}

// needs returns with which error a need is refused.
func needs(do func()) api.Errno {
	_, e := refuse.Attempt(func() int {
		do()
		return 0
	})
	return e
}

// TestNeed: types are refused unless they are those that are needed, as many of them, in their order.
func TestNeed(t *testing.T) {
	l := some()
	for i := range l {
		for n := range 4 {
			end := min(len(l), i+n)
			for k := range l {
				for m := range 4 {
					want := api.ErrType
					if n > 0 && i == k && end == min(len(l), k+m) || i == end && k == min(len(l), k+m) {
						want = api.OK
					}
					if e := needs(func() { types.Need(l[i:end], l[k:min(len(l), k+m)]...) }); e != want {
						t.Errorf("%d to %d, and %d to %d: %d", i, end, k, k+m, e)
					}
				}
			}
		}
	}
}

// TestNeedOne: types are refused unless all of them are the same.
func TestNeedOne(t *testing.T) {
	l := some()
	for _, a := range l {
		for _, b := range l {
			want := api.ErrType
			if types.Same(a, b) {
				want = api.OK
			}
			for _, x := range [][]api.Type{{a, b}, {a, a, b}, {b, a, a}, {a, b, a, a}} {
				var one api.Type
				if e := needs(func() { one = types.NeedOne(x...) }); e != want || e == api.OK && !types.Same(one, a) {
					t.Errorf("%v of %v: %d", one, x, e)
				}
			}
		}
	}
}

// TestNeedValid: what is not valid has no type.
func TestNeedValid(t *testing.T) {
	var one api.Type
	if e := needs(func() { one = types.NeedValid(types.Tuple(some()[:8]...)) }); e != api.OK || !types.Same(one, types.Tuple(some()[:8]...)) {
		t.Errorf("%v, %d", one, e)
	}
	if e := needs(func() { types.NeedValid(types.Tuple(some()[:9]...)) }); e != api.ErrType {
		t.Errorf("%d", e)
	}
}

// TestNew: a copy shares no memory.
func TestNew(t *testing.T) {
	for _, x := range some() {
		if !types.Same(types.New(x), x) {
			t.Error(x)
		}
	}
	old := types.Tuple(types.Tuple(types.Word()), types.Word())
	made := types.New(old)
	old.L[0].L[0], old.L[1] = types.Text(), types.Text()
	if !types.Same(made, types.Tuple(types.Tuple(types.Word()), types.Word())) {
		t.Error(made)
	}
}
