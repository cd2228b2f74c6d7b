package value_test

import (
	"strings"
	"testing"

	"deltaworks/api"
	"deltaworks/value"
)

func cloneValue(v api.Value) api.Value {
	l := make([]api.Value, 0, len(v.L))
	for _, part := range v.L {
		l = append(l, cloneValue(part))
	}
	v.L = l
	return v
}

func cloneType(t api.Type) api.Type {
	l := make([]api.Type, 0, len(t.L))
	for _, part := range t.L {
		l = append(l, cloneType(part))
	}
	t.L = l
	return t
}

// spoil alters all parts of a value, one after the other, also those that stand behind the end of a list; spoilType those of a type.
func spoil(v api.Value) {
	l := v.L[:cap(v.L)]
	for i := range l {
		spoil(l[i])
		l[i] = api.Value{Kind: api.ValueText, S: "spoilt"}
	}
}

func spoilType(t api.Type) {
	l := t.L[:cap(t.L)]
	for i := range l {
		spoilType(l[i])
		l[i] = api.Type{Kind: 77}
	}
}

// apart alters each part of v, which is in root, and checks that nothing else in root is altered by it.
func apart(t *testing.T, v *api.Value, root api.Value) {
	before := cloneValue(root)
	for i := range v.L {
		kept := v.L[i]
		v.L[i] = api.Value{Kind: 9}
		changes := 0
		countChanges(before, root, &changes)
		if changes != 1 {
			t.Errorf("%d places are one", changes)
		}
		v.L[i] = kept
		apart(t, &v.L[i], root)
	}
}

func countChanges(a, b api.Value, n *int) {
	if a.Kind != b.Kind {
		*n++
		return
	}
	for i := range a.L {
		countChanges(a.L[i], b.L[i], n)
	}
}

// TestArgumentsAreOnlyRead: P1.7, of arguments.
func TestArgumentsAreOnlyRead(t *testing.T) {
	for i, v := range manyValues(t) {
		kept := cloneValue(v)
		value.Check(v)
		value.Size(v)
		value.Compare(v, v)
		value.Is(v, sampleType)
		value.Text(v)
		value.Key(v)
		if !same(v, kept) {
			t.Fatalf("%d: %v, not %v", i, v, kept)
		}
	}
	for i, u := range manyTypes() {
		kept := cloneType(u)
		value.Type(u)
		value.TypeText(u)
		value.Is(sample, u)
		value.Least(u)
		if !alike(u, kept) {
			t.Fatalf("type %d: %v, not %v", i, u, kept)
		}
	}
}

// twins returns a type of two parts that are the same.
func twins() api.Type {
	pair := kind(api.TypeTuple, none, kind(api.TypeSum, kind(api.TypeTuple, integer)))
	return kind(api.TypeTuple, cloneType(pair), cloneType(pair))
}

// TestResultsAreNew: P1.7, of results: what is done with one does not alter what is returned later, or another part of it.
func TestResultsAreNew(t *testing.T) {
	half := tuple(num(1), tag(0, tuple(num(2))))
	twice := tuple(cloneValue(half), cloneValue(half))
	argument := twins()
	for range 2 {
		v, e := value.Parse("((1, #0 (2)), (1, #0 (2)))")
		w, f := value.OfKey("\x03" + strings.Repeat("\x03\x01\x80\x00\x00\x01\x04\x01\x03\x01\x80\x00\x00\x02\x00\x00", 2) + "\x00")
		u, g := value.TypeParse("(((), [(int)]), ((), [(int)]))")
		l, h := value.Least(argument)
		if !same(v, twice) || !same(w, twice) || !alike(u, twins()) || !value.Is(l, twins()) || e+f+g+h != api.OK {
			t.Fatalf("%v, %v, %v, %v", v, w, u, l)
		}
		apart(t, &v, v)
		apart(t, &w, w)
		apart(t, &l, l)
		spoil(v)
		if !same(w, twice) {
			t.Error("two results are one")
		}
		spoil(w)
		spoil(l)
		spoilType(u.L[0])
		if !alike(u.L[1], twins().L[1]) {
			t.Error("two parts of a type are one")
		}
		if !alike(argument, twins()) {
			t.Error("a result shares memory with an argument")
		}
	}
	l, _ := value.Least(argument)
	spoilType(argument)
	if !value.Is(l, twins()) {
		t.Error("an argument is retained")
	}
}

// TestExamples: the table of the document, as far as it is not said above.
func TestExamples(t *testing.T) {
	for i, x := range []struct {
		a, b api.Value
		n    int
	}{
		{num(2), num(10), -1},
		{text("b"), text("aa"), 1},
		{tuple(num(1)), tuple(num(1), num(0)), -1},
		{text("z"), tuple(), -1},
	} {
		if n, e := value.Compare(x.a, x.b); n != x.n || e != api.OK {
			t.Errorf("%d: %d, %d", i, n, e)
		}
	}
	if n, _ := value.Size(sample); n != 6 || !value.Is(sample, sampleType) || value.Is(sample, sampleType.L[0]) {
		t.Errorf("%d", n)
	}
}
