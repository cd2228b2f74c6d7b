package change_test

import (
	"cmp"
	"math/rand"
	"reflect"
	"slices"
	"testing"

	"deltaworks/api"
	"deltaworks/change"
)

// span is where the elements of a list are, with those for which it has room.
type span struct{ from, to uintptr }

// spans returns those of all lists within something.
func spans(x any) (l []span) {
	var walk func(v reflect.Value)
	walk = func(v reflect.Value) {
		switch v.Kind() {
		case reflect.Struct:
			for i := range v.NumField() {
				walk(v.Field(i))
			}
		case reflect.Slice:
			if v.Cap() > 0 {
				l = append(l, span{v.Pointer(), v.Pointer() + uintptr(v.Cap())*v.Type().Elem().Size()})
			}
			for i := range v.Len() {
				walk(v.Index(i))
			}
		}
	}
	walk(reflect.ValueOf(x))
	return l
}

// areApart reports whether no two of these share memory.
func areApart(l []span) bool {
	slices.SortFunc(l, func(x, y span) int { return cmp.Compare(x.from, y.from) })
	for i := 1; i < len(l); i++ {
		if l[i].from < l[i-1].to {
			return false
		}
	}
	return true
}

// cloned returns a copy of something that shares no memory with it, and has lists that have no room.
func cloned[T any](x T) T {
	var copied func(v reflect.Value) reflect.Value
	copied = func(v reflect.Value) reflect.Value {
		made := reflect.New(v.Type()).Elem()
		switch {
		case v.Kind() == reflect.Struct:
			for i := range v.NumField() {
				made.Field(i).Set(copied(v.Field(i)))
			}
		case v.Kind() == reflect.Slice && v.Len() > 0:
			made.Set(reflect.MakeSlice(v.Type(), v.Len(), v.Len()))
			for i := range v.Len() {
				made.Index(i).Set(copied(v.Index(i)))
			}
		case v.Kind() != reflect.Slice:
			made.Set(v)
		}
		return made
	}
	return copied(reflect.ValueOf(x)).Interface().(T)
}

// args are what functions are called with.
type args struct {
	T       api.DataType
	A, B    api.Data
	C, D, E api.Change // changes of A and A, and of what C makes of A
}

func anyArgs(r *rand.Rand, t api.DataType) args {
	x := args{T: t, A: anyData(r, t), B: anyData(r, t)}
	x.C, x.D = anyChange(r, t, x.A), anyChange(r, t, x.A)
	next, _ := modelApply(t, x.A, x.C)
	x.E = anyChange(r, t, next)
	return cloned(x)
}

// made returns all that functions make of arguments.
func (x args) made() []any {
	empty, e1 := change.Empty(x.T)
	none, e2 := change.None(x.T)
	applied, e3 := change.Apply(x.T, x.A, x.C)
	same, e4 := change.Apply(x.T, x.A, none)
	diff, e5 := change.Diff(x.T, x.A, x.B)
	back, e6 := change.Invert(x.T, x.C)
	composed, e7 := change.Compose(x.T, x.C, x.E)
	first, e8 := change.Compose(x.T, x.C, none)
	last, e9 := change.Compose(x.T, none, x.E)
	merged, e10 := change.Merge(x.T, x.C, x.D)
	self, e11 := change.Merge(x.T, x.C, none)
	other, e12 := change.Merge(x.T, none, x.D)
	check := change.Check(x.T)
	is, e13 := change.Is(x.T, x.A)
	fits, e14 := change.Fits(x.T, x.C)
	return []any{empty, none, applied, same, diff, back, composed, first, last, merged, self, other, check, is, fits, []api.Errno{e1, e2, e3, e4, e5, e6, e7, e8, e9, e10, e11, e12, e13, e14}}
}

// TestArgumentsAreOnlyRead: P4.8, of arguments.
func TestArgumentsAreOnlyRead(t *testing.T) {
	anyTimes(9, func(r *rand.Rand, x api.DataType) {
		a := anyArgs(r, x)
		kept := cloned(a)
		a.made()
		if !reflect.DeepEqual(a, kept) {
			t.Fatalf("%v, not %v", a, kept)
		}
	})
}

// TestResultsAreNew: P4.8: results share no memory with arguments, with one another, and within themselves.
func TestResultsAreNew(t *testing.T) {
	anyTimes(10, func(r *rand.Rand, x api.DataType) {
		a := anyArgs(r, x)
		var all []span
		for i, made := range a.made() {
			l := spans(made)
			if !areApart(slices.Concat(l, spans(a))) {
				t.Fatalf("%d shares memory with an argument, or within itself: %v", i, made)
			}
			all = append(all, l...)
		}
		if !areApart(all) {
			t.Fatal("results share memory")
		}
	})
}

// TestSharedArguments: P4.8: what is shared within the arguments is not shared within a result.
func TestSharedArguments(t *testing.T) {
	v := tup(num(1), tag(0, str("a")))
	w := tup(num(2), v.L[1])
	z := once(1, v, w)
	set := api.Data{Kind: api.DataSet, Rows: z}
	m := mapped(entryOf{v, set}, entryOf{w, set})
	inner := kindOf(api.DataSet, nested)
	maps := api.DataType{Kind: api.DataMap, T: nested, L: single(inner)}
	wide := kind(api.DataTuple, maps, maps, inner, kindOf(api.DataValue, nested), kindOf(api.DataList, nested), inner)
	d := tupled(m, m, set, valued(v), api.Data{Kind: api.DataList, List: []api.Value{v, v, w}}, set)
	c := modelDiff(wide, must(change.Empty(wide)), d)
	c.L[0].Keys = []api.KeyChange{{Key: v, Data: set}, {Key: w, Data: set}}
	c.L[1].Keys = c.L[0].Keys
	off := api.Change{Kind: api.DataSet, Rows: once(-1, v, w)}
	e := parts(keysOf(v, w, off), keysOf(v, w, off), off, turns(v, w), api.Change{Kind: api.DataList, Edit: []api.EditPiece{{Kind: api.EditDrop, L: []api.Value{v, v, w}}, {Kind: api.EditPut, L: []api.Value{v, v, w}}}}, off)
	a := args{T: wide, A: d, B: must(change.Empty(wide)), C: e, D: e, E: must(change.None(wide))}
	kept := cloned(a)
	for i, made := range append(a.made(), must(change.Invert(wide, c)), must(change.Compose(wide, c, e)), must(change.Apply(wide, a.B, c)), must(change.Diff(wide, a.B, d)), must(change.Merge(wide, c, c))) {
		if l := spans(made); !areApart(l) || sharesWith(l, spans(a)) {
			t.Errorf("%d shares memory: %v", i, made)
		}
	}
	if !reflect.DeepEqual(cloned(a), kept) {
		t.Errorf("%v, not %v", a, kept)
	}
	if errors := a.made()[15]; !reflect.DeepEqual(errors, make([]api.Errno, 14)) {
		t.Error(errors)
	}
}

// keysOf changes what belongs to two keys.
func keysOf(v, w api.Value, c api.Change) api.Change {
	return keys(api.KeyChange{Key: v, Op: api.KeyIn, Change: c}, api.KeyChange{Key: w, Op: api.KeyIn, Change: c})
}

// sharesWith reports whether one of these shares memory with one of others.
func sharesWith(l, others []span) bool {
	for _, x := range l {
		for _, y := range others {
			if x.from < y.to && y.from < x.to {
				return true
			}
		}
	}
	return false
}

// TestAgain: W11: what a function returns depends on its arguments alone.
func TestAgain(t *testing.T) {
	anyTimes(11, func(r *rand.Rand, x api.DataType) {
		a := anyArgs(r, x)
		once := a.made()
		anyArgs(r, x).made()
		if again := cloned(a).made(); !reflect.DeepEqual(again, once) {
			t.Fatalf("%v, not %v", again, once)
		}
	})
}
