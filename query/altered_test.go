package query_test

import (
	"math/rand"
	"reflect"
	"testing"

	"deltaworks/api"
	"deltaworks/query"
)

// clone returns a copy of something that shares no memory with it, and whose lists have room behind their ends.
func clone[T any](x T) T {
	var copied func(v reflect.Value) reflect.Value
	copied = func(v reflect.Value) reflect.Value {
		made := reflect.New(v.Type()).Elem()
		made.Set(v)
		switch v.Kind() {
		case reflect.Struct:
			for i := range v.NumField() {
				made.Field(i).Set(copied(v.Field(i)))
			}
		case reflect.Slice:
			made.Set(reflect.MakeSlice(v.Type(), v.Len(), v.Len()+2))
			for i := range v.Len() {
				made.Index(i).Set(copied(v.Index(i)))
			}
		}
		return made
	}
	return copied(reflect.ValueOf(&x).Elem()).Interface().(T)
}

// parts are all fields and elements within something that can be altered.
func parts(x reflect.Value) (l []reflect.Value) {
	switch x.Kind() {
	case reflect.Struct:
		for i := range x.NumField() {
			l = append(l, parts(x.Field(i))...)
		}
		return l
	case reflect.Slice:
		for i := range x.Len() {
			l = append(l, parts(x.Index(i))...)
		}
	}
	return append(l, x)
}

// alter alters one part of a program: a number, a denial, or a list.
func alter(r *rand.Rand, p *api.Prog) {
	l := parts(reflect.ValueOf(p).Elem())
	x := l[r.Intn(len(l))]
	switch x.Kind() {
	case reflect.Int:
		x.SetInt(pick(r, x.Int()+1, x.Int()-1, x.Int()+1, x.Int()-1, int64(r.Intn(14)), -1, 0, 1<<40))
	case reflect.Bool:
		x.SetBool(!x.Bool())
	case reflect.Slice:
		n := x.Len()
		switch more := pick(r, 0, 1, 2, 9, 50); {
		case n == 0:
			x.Set(reflect.MakeSlice(x.Type(), more, more))
		case r.Intn(2) == 0:
			x.Set(x.Slice(0, r.Intn(n)))
		default:
			for range more {
				x.Set(reflect.Append(x, x.Index(r.Intn(n))))
			}
		}
	}
}

// TestAltered: P6.1, and the errors: of programs of which a few parts are altered it is said whether they are formed, and whether they have types, as the chapter does.
func TestAltered(t *testing.T) {
	seen := map[api.Errno]int{}
	anyTimes(2, 8000, func(m *maker) {
		p := clone(m.valid(1 + m.r.Intn(4)))
		for range 1 + m.r.Intn(2) {
			alter(m.r, &p)
		}
		want, e := model{p}.verdict()
		seen[e]++
		types, err := query.Types(p)
		areTypes(t, types, err, want, e)
		if check := query.Check(p); check != e || t.Failed() {
			t.Fatalf("%d, not %d: %+v", check, e, p)
		}
	})
	if seen[api.OK] < 1000 || seen[api.ErrArg] < 1000 || seen[api.ErrType] < 400 {
		t.Error(seen)
	}
}
