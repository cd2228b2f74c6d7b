package strat_test

import (
	"fmt"
	"math/rand"
	"reflect"
	"slices"
	"strings"
	"testing"

	"deltaworks/api"
	"deltaworks/strat"
)

// places are those of all elements of all lists within something, with the room behind them, and how often each is found.
func places(x any) map[uintptr]int {
	found := map[uintptr]int{}
	var walk func(v reflect.Value)
	walk = func(v reflect.Value) {
		switch v.Kind() {
		case reflect.Struct:
			for i := range v.NumField() {
				walk(v.Field(i))
			}
		case reflect.Slice:
			for i := range v.Cap() {
				found[v.Pointer()+uintptr(i)*v.Type().Elem().Size()]++
			}
			for i := range v.Len() {
				walk(v.Index(i))
			}
		}
	}
	walk(reflect.ValueOf(x))
	return found
}

// args are what functions are called with.
type args struct {
	Given given
	From  []int
}

// clone returns a copy of all that there is in something, whose lists have room behind their ends.
func clone[T any](x T) T {
	var copied func(v reflect.Value) reflect.Value
	copied = func(v reflect.Value) reflect.Value {
		made := reflect.New(v.Type()).Elem()
		switch v.Kind() {
		case reflect.Struct:
			for i := range v.NumField() {
				made.Field(i).Set(copied(v.Field(i)))
			}
		case reflect.Slice:
			made.Set(reflect.MakeSlice(v.Type(), v.Len(), v.Len()+2))
			for i := range v.Len() {
				made.Index(i).Set(copied(v.Index(i)))
			}
		default:
			made.Set(v)
		}
		return made
	}
	return copied(reflect.ValueOf(x)).Interface().(T)
}

// told returns all that there is in arguments, also behind the ends of lists.
func (x args) told() string {
	var b strings.Builder
	var walk func(v reflect.Value)
	walk = func(v reflect.Value) {
		switch v.Kind() {
		case reflect.Struct:
			for i := range v.NumField() {
				walk(v.Field(i))
			}
		case reflect.Slice:
			fmt.Fprint(&b, v.Len(), "[")
			for i := range v.Cap() {
				walk(v.Slice(0, v.Cap()).Index(i))
			}
			fmt.Fprint(&b, "]")
		default:
			fmt.Fprintf(&b, "%#v ", v)
		}
	}
	walk(reflect.ValueOf(x))
	return b.String()
}

// made returns all that functions make of arguments.
func (x args) made() []any {
	rels := len(x.Given.Inputs) + len(x.Given.Others)
	l, e := strat.Reach(rels, x.Given.Rules, x.From)
	return []any{all(rels, x.Given.Rules), l, e, x.Given.prog()}
}

// areNew fails if what is made of arguments shares memory with them, with each other, or within itself.
func areNew(t *testing.T, x args, made []any) {
	t.Helper()
	taken := places(x)
	for i, result := range made {
		for at, n := range places(result) {
			if n != 1 || taken[at] > 0 {
				t.Fatalf("%d shares memory: %v of %v", i, result, x)
			}
			taken[at] = 1
		}
	}
}

// TestArgumentsAndResults: P8.6: arguments are only read, and results are new memory. W11: what is returned depends on arguments alone.
func TestArgumentsAndResults(t *testing.T) {
	anyTimes(10, 1500, func(r *rand.Rand, g given) {
		if r.Intn(4) == 0 {
			alter(r, &g)
		}
		rels := len(g.Inputs) + len(g.Others)
		x := clone(args{g, r.Perm(rels)[:r.Intn(rels+1)]})
		before := x.told()
		once := x.made()
		args{anyGiven(r), nil}.made()
		again := x.made()
		if x.told() != before {
			t.Fatalf("%s, not %s", x.told(), before)
		}
		if !reflect.DeepEqual(once, again) {
			t.Fatalf("%v, not %v", again, once)
		}
		areNew(t, x, append(once, again...))
	})
}

// TestWhatIsSharedIsParted: P8.6: what stands twice in arguments is no one memory in results.
func TestWhatIsSharedIsParted(t *testing.T) {
	outer := tuples(pair, pair)
	v := words(1, 2)
	deep := rule(terms(is(v), is(v)), api.Atom{Rel: 0, Args: terms(is(v), is(v))}, api.Atom{Rel: 0, Args: vars(0, 0)})
	of := exp(api.ExpTuple, 0, whole(1), whole(2))
	sum := same(tagged(0, of, outer.L...), tagged(0, of, outer.L...))
	deep.Tests = []api.Exp{sum, sum, same(vari(0), of)}
	x := args{given{types(outer, outer), types(outer, outer, outer), slices.Concat(rules(3, deep, deep), rules(2, deep))}, []int{3, 3}}
	first := x.made()
	if p := first[3].(prog); p.E != api.OK || len(p.P.Views[1].Rules) != 2 {
		t.Fatal(p)
	}
	areNew(t, x, append(first, x.made()...))
}
