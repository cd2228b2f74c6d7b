package value_test

import (
	"math/rand"
	"slices"
	"strings"
	"testing"

	"deltaworks/api"
	"deltaworks/value"
)

// num, text, tuple and tag return values, kind a type.
func num(n int) api.Value            { return api.Value{Kind: api.ValueInt, N: n} }
func text(s string) api.Value        { return api.Value{Kind: api.ValueText, S: s} }
func tuple(l ...api.Value) api.Value { return api.Value{Kind: api.ValueTuple, L: l} }

func tag(n int, v api.Value) api.Value {
	return api.Value{Kind: api.ValueTag, N: n, L: []api.Value{v}}
}

func kind(k int, l ...api.Type) api.Type { return api.Type{Kind: k, L: l} }

// integer, letters and none are types; sampleType is that of sample: V and T of the document.
var (
	integer    = kind(api.TypeInt)
	letters    = kind(api.TypeText)
	none       = kind(api.TypeTuple)
	sample     = tuple(num(-3), text("a\"b"), tuple(), tag(2, num(0)))
	sampleType = kind(api.TypeTuple, integer, letters, none, kind(api.TypeSum, letters, none, integer))
)

// times returns a list with the same element so many times.
func times[T any](n int, x T) []T { return slices.Repeat([]T{x}, n) }

// tower returns a value of so many words and tuples one within the other, typeTower such a type.
func tower(n int) api.Value {
	v := num(1)
	for range n - 1 {
		v = tuple(v)
	}
	return v
}

func typeTower(n int) api.Type {
	t := integer
	for range n - 1 {
		t = kind(api.TypeTuple, t)
	}
	return t
}

// loop returns a tuple, and typeLoop a type, that has itself as each of so many parts.
func loop(n int) api.Value {
	l := make([]api.Value, n)
	for i := range l {
		l[i] = api.Value{Kind: api.ValueTuple, L: l}
	}
	return l[0]
}

func typeLoop(n int) api.Type {
	l := make([]api.Type, n)
	for i := range l {
		l[i] = api.Type{Kind: api.TypeSum, L: l}
	}
	return l[0]
}

// same and alike compare values and types, where no list is an empty list.
func same(a, b api.Value) bool {
	return a.Kind == b.Kind && a.N == b.N && a.S == b.S && slices.EqualFunc(a.L, b.L, same)
}

func alike(a, b api.Type) bool { return a.Kind == b.Kind && slices.EqualFunc(a.L, b.L, alike) }

// rising returns values in the order of the document.
func rising() []api.Value {
	return []api.Value{
		num(api.WordLow), num(-256), num(-1), num(0), num(1), num(2), num(10), num(255), num(256), num(api.WordHigh),
		text(""), text(" "), text("\""), text("10"), text("2"), text("A"), text("\\"), text("a"), text("a "), text("aa"), text("b"), text(strings.Repeat("~", 99)), text(strings.Repeat("~", 100)),
		tuple(), tuple(num(-1)), tuple(num(1)), tuple(num(1), num(0)), tuple(num(1), text("")), tuple(num(2)), tuple(text("")), tuple(text(""), tag(7, num(9))), tuple(text("a")), tuple(tuple()), tuple(tuple(), num(3)), tuple(tuple(num(0))), tuple(tuple(num(0)), num(0)), tuple(tag(0, num(0))), tuple(tag(1, num(-5))),
		tag(0, num(9)), tag(0, text("")), tag(0, tuple(num(7))), tag(0, tag(3, num(0))), tag(1, num(0)), tag(1, num(1)), tag(7, num(-1)), tag(7, tag(7, tuple())),
	}
}

// randomValue and randomType return valid ones, at most so deep.
func randomValue(r *rand.Rand, deep int) api.Value {
	k := r.Intn(4)
	if deep == 1 {
		k = r.Intn(2)
	}
	switch k {
	case 0:
		return num([]int{0, -1, 1, r.Intn(300), api.WordLow, api.WordHigh, int(int32(r.Uint32()))}[r.Intn(7)])
	case 1:
		b := make([]byte, r.Intn(4))
		for i := range b {
			b[i] = " ~\"\\#(),a0"[r.Intn(10)]
		}
		return text(string(b))
	case 2:
		v := tuple()
		for range r.Intn(4) {
			v.L = append(v.L, randomValue(r, min(deep-1, 3)))
		}
		return v
	}
	return tag(r.Intn(8), randomValue(r, deep-1))
}

func randomType(r *rand.Rand, deep int) api.Type {
	k := r.Intn(4)
	if deep == 1 {
		k = r.Intn(2)
	}
	t := kind(k)
	n := 0
	switch k {
	case api.TypeTuple:
		n = r.Intn(4)
	case api.TypeSum:
		n = 1 + r.Intn(3)
	}
	for range n {
		t.L = append(t.L, randomType(r, min(deep-1, 3)))
	}
	return t
}

// randomOf returns a value of a type.
func randomOf(r *rand.Rand, t api.Type) api.Value {
	switch t.Kind {
	case api.TypeInt:
		return num(int(int32(r.Uint32())) >> r.Intn(32))
	case api.TypeText:
		return text(strings.Repeat("a", r.Intn(3)))
	case api.TypeSum:
		n := r.Intn(len(t.L))
		return tag(n, randomOf(r, t.L[n]))
	}
	v := tuple()
	for _, part := range t.L {
		v.L = append(v.L, randomOf(r, part))
	}
	return v
}

// manyValues and manyTypes return valid ones, some of them more than once.
func manyValues(t *testing.T) []api.Value {
	r := rand.New(rand.NewSource(1))
	l := rising()
	for len(l) < 300 {
		v := randomValue(r, 5)
		if value.Check(v) == api.OK {
			l = append(l, v)
		}
	}
	for i, v := range l {
		if value.Check(v) != api.OK {
			t.Fatalf("value %d is not valid", i)
		}
	}
	return l
}

func manyTypes() []api.Type {
	r := rand.New(rand.NewSource(2))
	l := []api.Type{integer, letters, none, sampleType}
	for len(l) < 300 {
		t := randomType(r, 5)
		if value.Type(t) == api.OK {
			l = append(l, t)
		}
	}
	return l
}

// eachString gives all strings up to a length, of the bytes of an alphabet, to use, some of them more than once.
func eachString(alphabet string, most int, use func(string)) {
	use("")
	if most > 0 {
		for i := range len(alphabet) {
			eachString(alphabet, most-1, func(s string) { use(alphabet[i:i+1] + s) })
		}
	}
}
