package fresh_test

import (
	"fmt"
	"reflect"
	"testing"

	"deltaworks/api"
	"deltaworks/fresh"
)

// places are those of all elements of all lists within something, with the room behind them, and how often each is found.
func places(l ...any) map[uintptr]int {
	found := map[uintptr]int{}
	var walk func(v reflect.Value)
	walk = func(v reflect.Value) {
		switch v.Kind() {
		case reflect.Interface:
			walk(v.Elem())
		case reflect.Struct:
			for i := range v.NumField() {
				walk(v.Field(i))
			}
		case reflect.Slice:
			for i := range v.Cap() {
				found[v.Pointer()+uintptr(i)*v.Type().Elem().Size()]++
			}
			for i := range v.Len() {
				walk(v.Index(i))
			}
		}
	}
	for _, x := range l {
		walk(reflect.ValueOf(x))
	}
	return found
}

// areParted fails if things share memory.
func areParted(t *testing.T, l ...any) {
	t.Helper()
	for _, n := range places(l...) {
		if n != 1 {
			t.Fatal("shared: ", l)
		}
	}
}

func text(s string) api.Value { return api.Value{Kind: api.ValueText, S: s} }

// some returns a value of all kinds, with lists that have no elements, and some with room behind them.
func some() api.Value {
	none := api.Value{Kind: api.ValueTuple, L: []api.Value{}}
	inner := api.Value{Kind: api.ValueTag, N: 3, L: append(make([]api.Value, 0, 4), text("a"))}
	return api.Value{Kind: api.ValueTuple, L: append(make([]api.Value, 0, 7), none, inner, api.Value{N: -5}, text(""))}
}

// TestValue: a copy of a value is the same, in memory of its own; what stands twice is parted.
func TestValue(t *testing.T) {
	old := some()
	made := fresh.Value(old)
	if fmt.Sprint(made) != fmt.Sprint(old) || made.L[0].L != nil {
		t.Error(made)
	}
	areParted(t, old, made, fresh.Value(old))
	twice := fresh.Value(api.Value{Kind: api.ValueTuple, L: []api.Value{old, old}})
	areParted(t, twice, old)
	made.L[1].L[0].S = "b"
	if old.L[1].L[0].S != "a" {
		t.Error(old)
	}
}

// node returns an expression that has something in each field.
func node(op int, parts ...api.Exp) api.Exp {
	inner := []api.Type{{Kind: api.TypeText}}
	return api.Exp{Op: op, N: 4, S: "s", T: []api.Type{{Kind: api.TypeTuple, L: inner}, {Kind: api.TypeSum, L: inner}}, L: parts}
}

// bare returns the same expression with those fields alone that its operation names; its parts are to be as these.
func bare(e api.Exp, parts ...api.Exp) api.Exp {
	made := api.Exp{Op: e.Op, L: parts}
	switch e.Op {
	case api.ExpVar, api.ExpInt, api.ExpGet, api.ExpTag, api.ExpBin, api.ExpCall:
		made.N = 4
	case api.ExpText:
		made.S = "s"
	}
	if e.Op == api.ExpTag {
		made.T = e.T
	}
	return made
}

// TestNode: a copy of an expression has what its operation names, and the same parts, in a list of its own.
func TestNode(t *testing.T) {
	for op := api.ExpVar; op <= api.ExpCall; op++ {
		for n := range 3 {
			parts := []api.Exp{node(api.ExpTag), node(api.ExpText)}[:n]
			old := node(op, parts...)
			before := fmt.Sprint(old)
			made := fresh.Node(old)
			if fmt.Sprint(made) != fmt.Sprint(bare(old, parts...)) || (made.L == nil) != (n == 0) {
				t.Error(made)
			}
			areParted(t, made.T)
			clear(made.L)
			for _, x := range made.T {
				clear(x.L)
			}
			clear(made.T)
			if fmt.Sprint(old) != before {
				t.Error(old)
			}
		}
	}
}

// TestRule: a copy of a rule has what its terms and expressions name, in memory of its own.
func TestRule(t *testing.T) {
	v := some()
	terms := []api.Term{{Var: 0, Value: v}, {Var: -1, Value: v}, {Var: 11, Value: v}, {Var: -1, Value: v}}
	e := node(api.ExpTag, node(api.ExpIf, node(api.ExpVar), node(api.ExpTag), node(api.ExpText)))
	old := api.Rule{Head: terms, Body: []api.Atom{{Rel: 3, Not: true, Args: terms}, {Rel: 4}, {Args: terms}}, Tests: []api.Exp{e, node(api.ExpInt), e}}
	plain := []api.Term{{}, {Var: -1, Value: v}, {Var: 11}, {Var: -1, Value: v}}
	is := bare(e, bare(e.L[0], bare(e.L[0].L[0]), bare(e.L[0].L[1]), bare(e.L[0].L[2])))
	want := api.Rule{Head: plain, Body: []api.Atom{{Rel: 3, Not: true, Args: plain}, {Rel: 4}, {Args: plain}}, Tests: []api.Exp{is, {Op: api.ExpInt, N: 4}, is}}
	before := fmt.Sprint(old)
	made := fresh.Rule(old)
	if fmt.Sprint(made) != fmt.Sprint(want) || fmt.Sprint(old) != before {
		t.Errorf("%v, not %v", made, want)
	}
	areParted(t, made, fresh.Rule(old), fresh.Rule(want))
	at := places(made)
	for place := range places(old) {
		if at[place] > 0 {
			t.Error("shared")
		}
	}
	if none := fresh.Rule(api.Rule{Head: []api.Term{}, Body: []api.Atom{}, Tests: []api.Exp{}}); !reflect.DeepEqual(none, api.Rule{}) {
		t.Error(none)
	}
}
