package lang_test

import (
	"fmt"
	"reflect"
	"strings"
	"testing"

	"deltaworks/api"
	"deltaworks/lang"
)

// places are those of all elements of all lists within something, with the room behind them, and how often each is found.
func places(x any) map[uintptr]int {
	found := map[uintptr]int{}
	var walk func(v reflect.Value)
	walk = func(v reflect.Value) {
		switch v.Kind() {
		case reflect.Struct:
			for i := range v.NumField() {
				walk(v.Field(i))
			}
		case reflect.Slice:
			for i := range v.Cap() {
				found[v.Pointer()+uintptr(i)*v.Type().Elem().Size()]++
			}
			for i := range v.Len() {
				walk(v.Index(i))
			}
		}
	}
	walk(reflect.ValueOf(x))
	return found
}

// told returns all that there is in something, also behind the ends of lists.
func told(x any) string {
	var b strings.Builder
	var walk func(v reflect.Value)
	walk = func(v reflect.Value) {
		switch v.Kind() {
		case reflect.Struct:
			for i := range v.NumField() {
				walk(v.Field(i))
			}
		case reflect.Slice:
			fmt.Fprint(&b, v.Len(), "[")
			for i := range v.Cap() {
				walk(v.Slice(0, v.Cap()).Index(i))
			}
			fmt.Fprint(&b, "]")
		default:
			fmt.Fprintf(&b, "%#v ", v)
		}
	}
	walk(reflect.ValueOf(x))
	return b.String()
}

// isKept fails unless writing something only reads it, and reading its text twice makes two things that are each new memory.
func isKept[T any](t *testing.T, x T, write func(T) (string, api.Errno), read func(string) (T, int, api.Errno)) {
	t.Helper()
	x = clone(x)
	before := told(x)
	s, e := write(x)
	again, err := write(x)
	if told(x) != before || s != again || e != err {
		t.Fatalf("%s, not %s; %q, not %q; %d, not %d", told(x), before, again, s, err, e)
	}
	taken := places(x)
	for range 2 {
		y, _, _ := read(s)
		for at, n := range places(y) {
			if n != 1 || taken[at] > 0 {
				t.Fatalf("%q: memory is shared", s)
			}
			taken[at] = 1
		}
		if !same(x, y) {
			t.Fatalf("%+v, not %+v", y, x)
		}
		defer spoil(reflect.ValueOf(&y).Elem())
	}
}

// spoil alters all numbers and texts within something.
func spoil(x reflect.Value) {
	switch x.Kind() {
	case reflect.Struct:
		for i := range x.NumField() {
			spoil(x.Field(i))
		}
	case reflect.Slice:
		for i := range x.Len() {
			spoil(x.Index(i))
		}
	case reflect.Int:
		x.SetInt(77)
	case reflect.String:
		x.SetString("spoilt")
	}
}

// TestArgumentsAndResults: P7.3: arguments are only read, and results are new memory. W11: what is returned depends on arguments alone.
func TestArgumentsAndResults(t *testing.T) {
	anyTimes(8, 1500, func(m maker) {
		isKept(t, m.prog(), lang.Write, lang.Read)
		isKept(t, m.exp(1+m.Intn(5)), lang.WriteExp, lang.ReadExp)
		isKept(t, m.zset(), lang.WriteZset, lang.ReadZset)
	})
	isKept(t, sample(), lang.Write, lang.Read)
	for range 3 {
		isProg(t, sample(), sampleText)
	}
}
