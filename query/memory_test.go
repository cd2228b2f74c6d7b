package query_test

import (
	"fmt"
	"reflect"
	"strings"
	"testing"

	"deltaworks/api"
	"deltaworks/query"
)

// places are those of all elements of all lists within something, with the room behind them, and how often each is found.
func places(x any) map[uintptr]int {
	found := map[uintptr]int{}
	var walk func(v reflect.Value)
	walk = func(v reflect.Value) {
		switch v.Kind() {
		case reflect.Struct:
			for i := range v.NumField() {
				walk(v.Field(i))
			}
		case reflect.Slice:
			for i := range v.Cap() {
				found[v.Pointer()+uintptr(i)*v.Type().Elem().Size()]++
			}
			for i := range v.Len() {
				walk(v.Index(i))
			}
		}
	}
	walk(reflect.ValueOf(x))
	return found
}

// args are what functions are called with.
type args struct {
	P           api.Prog
	Ins, Change []api.Zset
}

// told returns all that there is in arguments, also behind the ends of lists.
func (x args) told() string {
	var b strings.Builder
	var walk func(v reflect.Value)
	walk = func(v reflect.Value) {
		switch v.Kind() {
		case reflect.Struct:
			for i := range v.NumField() {
				walk(v.Field(i))
			}
		case reflect.Slice:
			fmt.Fprint(&b, v.Len(), "[")
			for i := range v.Cap() {
				walk(v.Slice(0, v.Cap()).Index(i))
			}
			fmt.Fprint(&b, "]")
		default:
			fmt.Fprintf(&b, "%#v ", v)
		}
	}
	walk(reflect.ValueOf(x))
	return b.String()
}

// made returns all that functions make of arguments.
func (x args) made() []any {
	types, e1 := query.Types(x.P)
	blocks, e2 := query.Blocks(x.P)
	rels, e3 := query.Eval(x.P, x.Ins)
	outs, e4 := query.Answers(x.P, x.Ins)
	sums, e5 := query.Apply(x.P, x.Ins, x.Change)
	versions, e6 := query.Versions(x.P, [][]api.Zset{x.Ins, x.Change, x.Ins, make([]api.Zset, len(x.Ins))})
	return []any{types, blocks, rels, outs, sums, versions, []api.Errno{query.Check(x.P), e1, e2, e3, e4, e5, e6}}
}

// areNew fails if what is made of arguments shares memory with them, with each other, or within itself.
func areNew(t *testing.T, x args, made []any) {
	t.Helper()
	taken := places(x)
	for i, result := range made {
		for at, n := range places(result) {
			if n != 1 || taken[at] > 0 {
				t.Fatalf("%d shares memory: %v of %v", i, result, x)
			}
			taken[at] = 1
		}
	}
}

// TestArgumentsAndResults: P6.6: arguments are only read, and results are new memory. W11: what is returned depends on arguments alone.
func TestArgumentsAndResults(t *testing.T) {
	anyTimes(10, 800, func(m *maker) {
		p := m.valid(m.r.Intn(5))
		p.Outs = append(p.Outs, 0, 0, len(m.types)-1, len(m.types)-1)
		x := clone(args{p, m.anyIns(), m.anyIns()})
		before := x.told()
		once := x.made()
		args{p, m.anyIns(), m.anyIns()}.made()
		again := x.made()
		if x.told() != before {
			t.Fatalf("%s, not %s", x.told(), before)
		}
		if !reflect.DeepEqual(once, again) {
			t.Fatalf("%v, not %v", again, once)
		}
		if errs := once[6].([]api.Errno); !reflect.DeepEqual(errs, make([]api.Errno, 7)) {
			t.Fatal(errs)
		}
		areNew(t, x, append(once, again...))
	})
}

// TestWhatIsSharedIsParted: P6.6: what stands twice in arguments is no one memory in results.
func TestWhatIsSharedIsParted(t *testing.T) {
	inner := tuples(integer, integer)
	of := tuples(inner, inner)
	v := words(1, 2)
	z := zset(row(tup(v, v), 3))
	var all []api.View
	for _, x := range valid() {
		if x.Op == api.ViewRules {
			x = ruled(0, of, rule(vars(0, 0), atom(0, 0, 0)), rule(terms(is(v), is(v))), rule(vars(1, 0), atom(2, 0, 1)))
		}
		for i := range x.F {
			if x.Op != api.ViewKeep && (x.Op != api.ViewFold || i == 0) {
				x.F[i] = list(vari(0), vari(0))
			} else {
				x.F[i] = whole(1)
			}
		}
		all = append(all, x)
	}
	p := program([]api.Type{of, of}, all...)
	p.Outs = []int{0, 1, 2, 3, 3, 7, 8, 8}
	x := args{p, ins(z, z), ins(z, nil)}
	x.P.Views[len(all)-1].Rules[2].Body[0].Rel = 1 + len(all)
	first := x.made()
	if errs := first[6].([]api.Errno); !reflect.DeepEqual(errs, make([]api.Errno, 7)) {
		t.Fatal(errs)
	}
	areNew(t, x, append(first, x.made()...))
}
