package lang_test

import (
	"reflect"
	"slices"
	"testing"

	"deltaworks/api"
	"deltaworks/lang"
)

// num, str, tup and tag return values.
func num(n int) api.Value          { return api.Value{N: n} }
func str(s string) api.Value       { return api.Value{Kind: api.ValueText, S: s} }
func tup(l ...api.Value) api.Value { return api.Value{Kind: api.ValueTuple, L: l} }

func tag(n int, v api.Value) api.Value {
	return api.Value{Kind: api.ValueTag, N: n, L: []api.Value{v}}
}

// tuples and sums return types, of which integer and letters are two.
func tuples(l ...api.Type) api.Type { return api.Type{Kind: api.TypeTuple, L: l} }
func sums(l ...api.Type) api.Type   { return api.Type{Kind: api.TypeSum, L: l} }

var (
	integer = api.Type{Kind: api.TypeInt}
	letters = api.Type{Kind: api.TypeText}
)

func times[T any](n int, x T) []T { return slices.Repeat([]T{x}, n) }

// exp returns an expression with parts, and those below are each of one operation.
func exp(op, n int, l ...api.Exp) api.Exp { return api.Exp{Op: op, N: n, L: l} }

func vari(n int) api.Exp        { return exp(api.ExpVar, n) }
func whole(n int) api.Exp       { return exp(api.ExpInt, n) }
func text(s string) api.Exp     { return api.Exp{Op: api.ExpText, S: s} }
func list(l ...api.Exp) api.Exp { return exp(api.ExpTuple, 0, l...) }

func tagged(n int, x api.Exp, l ...api.Type) api.Exp {
	return api.Exp{Op: api.ExpTag, N: n, T: l, L: []api.Exp{x}}
}

func exps(l ...api.Exp) []api.Exp { return l }

// vars returns terms; is is one that is a value.
func vars(l ...int) (terms []api.Term) {
	for _, n := range l {
		terms = append(terms, api.Term{Var: n})
	}
	return terms
}

func is(v api.Value) api.Term { return api.Term{Var: -1, Value: v} }

func terms(l ...api.Term) []api.Term { return l }

// view returns a view that is made of relations by expressions; of returns the program of one view.
func view(op, n int, from []int, f ...api.Exp) api.View {
	return api.View{Op: op, N: n, From: from, F: f}
}

func rules(n int, t api.Type, l ...api.Rule) api.View {
	return api.View{Op: api.ViewRules, N: n, T: t, Rules: l}
}

func of(v api.View) api.Prog { return api.Prog{Views: []api.View{v}} }

func row(v api.Value, n int) api.Item { return api.Item{Row: v, N: n} }

// same reports whether all fields are the same; an empty list is no list.
func same[T any](a, b T) bool {
	var walk func(x, y reflect.Value) bool
	walk = func(x, y reflect.Value) bool {
		switch x.Kind() {
		case reflect.Struct:
			for i := range x.NumField() {
				if !walk(x.Field(i), y.Field(i)) {
					return false
				}
			}
			return true
		case reflect.Slice:
			for i := range min(x.Len(), y.Len()) {
				if !walk(x.Index(i), y.Index(i)) {
					return false
				}
			}
			return x.Len() == y.Len()
		}
		return x.Interface() == y.Interface()
	}
	return walk(reflect.ValueOf(&a).Elem(), reflect.ValueOf(&b).Elem())
}

// preview is the beginning of a text, long enough to know it.
func preview(s string) string { return s[:min(len(s), 300)] }

// isRead fails unless a text is read as something; isRefused unless it is refused at a place with an error, and nothing is returned.
func isRead[T any](t *testing.T, read func(string) (T, int, api.Errno), s string, want T) {
	t.Helper()
	if x, at, e := read(s); !same(x, want) || at != 0 || e != api.OK {
		t.Errorf("%q: %+v, %d, %d, not %+v", preview(s), x, at, e, want)
	}
}

func isRefused[T any](t *testing.T, read func(string) (T, int, api.Errno), s string, place int, err api.Errno) {
	t.Helper()
	var none T
	if x, at, e := read(s); !same(x, none) || at != place || e != err {
		t.Errorf("%q: %+v, %d, %d, not %d, %d", preview(s), x, at, e, place, err)
	}
}

// isWritten fails unless a text, or, with an error, none, is written of something; isBoth unless it is read as that, too.
func isWritten[T any](t *testing.T, write func(T) (string, api.Errno), x T, want string, err api.Errno) {
	t.Helper()
	if s, e := write(x); s != want || e != err {
		t.Errorf("%q, %d, not %q, %d", preview(s), e, preview(want), err)
	}
}

func isBoth[T any](t *testing.T, write func(T) (string, api.Errno), read func(string) (T, int, api.Errno), x T, s string) {
	t.Helper()
	isWritten(t, write, x, s, api.OK)
	isRead(t, read, s, x)
}

func isProg(t *testing.T, p api.Prog, s string) {
	t.Helper()
	isBoth(t, lang.Write, lang.Read, p, s)
}

func isExp(t *testing.T, x api.Exp, s string) {
	t.Helper()
	isBoth(t, lang.WriteExp, lang.ReadExp, x, s)
}

func isZset(t *testing.T, z api.Zset, s string) {
	t.Helper()
	isBoth(t, lang.WriteZset, lang.ReadZset, z, s)
}
