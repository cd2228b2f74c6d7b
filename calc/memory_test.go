package calc_test

import (
	"fmt"
	"reflect"
	"slices"
	"testing"

	"deltaworks/api"
	"deltaworks/calc"
)

// places are those of all elements of all lists within something, with the room behind them, and how often each is found.
func places(x any) map[uintptr]int {
	found := map[uintptr]int{}
	var walk func(v reflect.Value)
	walk = func(v reflect.Value) {
		switch v.Kind() {
		case reflect.Struct:
			for i := range v.NumField() {
				walk(v.Field(i))
			}
		case reflect.Slice:
			for i := range v.Cap() {
				found[v.Pointer()+uintptr(i)*v.Type().Elem().Size()]++
			}
			for i := range v.Len() {
				walk(v.Index(i))
			}
		}
	}
	walk(reflect.ValueOf(x))
	return found
}

// args are what functions are called with.
type args struct {
	Funs   []api.Fun
	Vars   []api.Type
	Values []api.Value
	E      api.Exp
	L      []api.Exp
}

// anyArgs returns some, with lists that have room behind their ends.
func anyArgs(m maker) args {
	x := args{Funs: m.funs, Vars: m.vars, Values: anyValues(m.r, m.vars), E: m.typed(m.anyType())}
	for _, u := range m.vars {
		x.L = append(x.L, m.typed(u))
	}
	x.Funs, x.Vars, x.Values, x.L, x.E.L = roomy(x.Funs), roomy(x.Vars), roomy(x.Values), roomy(x.L), roomy(x.E.L)
	return x
}

func roomy[T any](l []T) []T { return append(make([]T, 0, len(l)+3), l...) }

// told returns all that there is in arguments, also behind the ends of lists.
func (x args) told() string {
	x.Funs, x.Vars, x.Values, x.L, x.E.L = x.Funs[:cap(x.Funs)], x.Vars[:cap(x.Vars)], x.Values[:cap(x.Values)], x.L[:cap(x.L)], x.E.L[:cap(x.E.L)]
	return fmt.Sprintf("%#v", x)
}

// made returns all that functions make of arguments.
func (x args) made() []any {
	results, e1 := calc.Results(x.Funs)
	u, e2 := calc.TypeOf(x.Funs, x.Vars, x.E)
	v, e3 := calc.Eval(x.Funs, x.Vars, x.Values, x.E)
	uses, e4 := calc.Uses(x.E, len(x.Vars))
	e, e5 := calc.Put(x.E, x.L, len(x.Vars))
	same, e6 := calc.Put(x.E, variables(len(x.Vars)), len(x.Vars))
	b, e7 := calc.Bin(api.OpSame, v, v)
	return []any{results, u, v, uses, e, same, b, []api.Errno{calc.Check(x.Funs), e1, e2, e3, e4, e5, e6, e7}}
}

// areNew fails if what is made of arguments shares memory with them, with each other, or within itself.
func areNew(t *testing.T, x args, made []any) {
	t.Helper()
	taken := places(x)
	for i, result := range made {
		for at, n := range places(result) {
			if n != 1 || taken[at] > 0 {
				t.Fatalf("%d shares memory: %v of %v", i, result, x)
			}
			taken[at] = 1
		}
	}
}

// TestArgumentsAndResults: P5.7: arguments are only read, and results are new memory. W11: what is returned depends on arguments alone.
func TestArgumentsAndResults(t *testing.T) {
	anyTimes(13, 1500, func(m maker) {
		x := anyArgs(m)
		before := x.told()
		once := x.made()
		anyArgs(m).made()
		again := x.made()
		if x.told() != before {
			t.Fatalf("%s, not %s", x.told(), before)
		}
		if !reflect.DeepEqual(once, again) {
			t.Fatalf("%v, not %v", again, once)
		}
		areNew(t, x, append(once, again...))
	})
}

// TestWhatIsSharedIsParted: P5.7: what stands twice in an argument, or comes of one variable twice, is no one memory in a result.
func TestWhatIsSharedIsParted(t *testing.T) {
	both := list(vari(0), vari(0))
	funs := []api.Fun{fun(both, nested), fun(get(0, call(0, vari(0))), nested), fun(tagged(sums(nested, nested), 1, vari(0)), nested), fun(vari(0), maybe)}
	inner := tup(tag(1, str("x")), tup(num(3), str("y")))
	x := args{Funs: funs, Vars: []api.Type{nested, maybe}, Values: []api.Value{inner, tag(0, inner)}, L: exps(both, tagged(maybe, 1, both))}
	for _, e := range exps(
		vari(0), both, list(both, vari(0)), list(both, both), let(vari(0), list(vari(2), vari(0), vari(2))), let(both, vari(2)), caseOf(vari(1), list(vari(2), vari(0), vari(2)), list(vari(0), vari(0), vari(0)), list(vari(0), vari(0), vari(0))),
		choose(whole(1), vari(0), vari(0)), get(0, both), call(0, vari(0)), list(call(1, vari(0)), call(2, vari(0)), vari(0)), call(3, vari(1)),
		list(tagged(maybe, 0, vari(0)), tagged(maybe, 0, vari(0)), vari(1)), list(get(0, vari(0)), get(1, vari(0)), get(1, vari(0))),
	) {
		x.E = e
		made := append(x.made(), x.made()...)
		if !slices.Equal(made[7].([]api.Errno), make([]api.Errno, 8)) {
			t.Fatalf("%v of %v", made[7], e)
		}
		areNew(t, x, made)
	}
}
