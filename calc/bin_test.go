package calc_test

import (
	"math/rand"
	"testing"

	"deltaworks/api"
	"deltaworks/calc"
)

// asModelBin fails unless an operation on two values makes what the document says, in Bin and as an expression.
func asModelBin(t *testing.T, op int, a, b api.Value) {
	t.Helper()
	want := modelBin(op, a, b)
	v, e := calc.Bin(op, a, b)
	isValue(t, v, e, want, api.OK)
	if a.Kind == api.ValueInt && b.Kind == api.ValueInt {
		v, e = calc.Eval(nil, times(2, integer), []api.Value{a, b}, bin(op, vari(0), vari(1)))
		isValue(t, v, e, want, api.OK)
	}
	if t.Failed() {
		t.Fatalf("operation %d of %v and %v", op, a, b)
	}
}

// TestBinOfWords: P5.4: what each operation makes of two words.
func TestBinOfWords(t *testing.T) {
	const low, high = api.WordLow, api.WordHigh
	for i, x := range []struct{ op, a, b, want int }{
		{api.OpAdd, high, 1, low}, {api.OpAdd, low, low, 0}, {api.OpAdd, high, high, -2}, {api.OpAdd, 2, -5, -3},
		{api.OpSub, low, 1, high}, {api.OpSub, 0, low, low}, {api.OpSub, low, high, 1}, {api.OpSub, 2, 5, -3},
		{api.OpMul, 1 << 16, 1 << 15, low}, {api.OpMul, 1 << 16, 1 << 16, 0}, {api.OpMul, low, -1, low}, {api.OpMul, high, high, 1}, {api.OpMul, low, low, 0}, {api.OpMul, -3, 7, -21},
		{api.OpDiv, 7, 2, 3}, {api.OpDiv, -7, 2, -4}, {api.OpDiv, 7, -2, -4}, {api.OpDiv, -7, -2, 3}, {api.OpDiv, 6, -2, -3}, {api.OpDiv, -6, 2, -3}, {api.OpDiv, 1, -2, -1}, {api.OpDiv, 0, -2, 0}, {api.OpDiv, low, -1, low}, {api.OpDiv, low, high, -2}, {api.OpDiv, high, low, -1}, {api.OpDiv, 7, 0, 0}, {api.OpDiv, low, 0, 0}, {api.OpDiv, 0, 0, 0},
		{api.OpMod, 7, 2, 1}, {api.OpMod, -7, 2, 1}, {api.OpMod, 7, -2, -1}, {api.OpMod, -7, -2, -1}, {api.OpMod, 6, -2, 0}, {api.OpMod, low, -1, 0}, {api.OpMod, low, high, high - 1}, {api.OpMod, high, low, -1}, {api.OpMod, 7, 0, 0}, {api.OpMod, -7, 0, 0},
		{api.OpMin, -1, 3, -1}, {api.OpMin, 3, -1, -1}, {api.OpMin, low, high, low}, {api.OpMin, 5, 5, 5},
		{api.OpMax, -1, 3, 3}, {api.OpMax, 3, -1, 3}, {api.OpMax, low, high, high}, {api.OpMax, 5, 5, 5},
		{api.OpAnd, 12, -6, 8}, {api.OpAnd, low, -1, low}, {api.OpAnd, low, high, 0},
		{api.OpOr, 12, 3, 15}, {api.OpOr, low, high, -1}, {api.OpOr, low, 1, low + 1},
		{api.OpXor, 12, 10, 6}, {api.OpXor, low, -1, high}, {api.OpXor, low, low, 0},
		{api.OpLess, 2, 3, 1}, {api.OpLess, 3, 3, 0}, {api.OpLess, 3, 2, 0}, {api.OpLess, low, high, 1}, {api.OpLess, high, low, 0}, {api.OpLess, -1, 0, 1},
		{api.OpSame, 3, 3, 1}, {api.OpSame, 3, 2, 0}, {api.OpSame, 2, 3, 0}, {api.OpSame, low, high, 0}, {api.OpSame, low, low, 1},
	} {
		v, e := calc.Bin(x.op, num(x.a), num(x.b))
		isValue(t, v, e, num(x.want), api.OK)
		if t.Failed() {
			t.Fatal(i)
		}
	}
	r := rand.New(rand.NewSource(6))
	some := []int{low, low + 1, -1 << 30, -65537, -256, -7, -3, -2, -1, 0, 1, 2, 3, 7, 8, 255, 65536, 1 << 30, high - 1, high}
	for range 20 {
		some = append(some, int(int32(r.Uint32())))
	}
	for op := range api.Ops {
		for _, a := range some {
			for _, b := range some {
				asModelBin(t, op, num(a), num(b))
			}
		}
	}
}

// inOrder returns values of all kinds, each ahead of the next one.
func inOrder() []api.Value {
	return []api.Value{num(api.WordLow), num(-1), num(9), num(10), str(""), str("9"), str("a"), str("ab"), str("b"), tup(), tup(num(1)), tup(num(1), num(-5)), tup(num(2)), tup(str("")), tup(tup()), tag(0, num(9)), tag(0, str("")), tag(1, num(0)), tag(1, tag(0, tup()))}
}

// TestBinOfAnyValues: P5.4: OpLess and OpSame are of any two values, also of other types.
func TestBinOfAnyValues(t *testing.T) {
	for i, a := range inOrder() {
		for k, b := range inOrder() {
			v, e := calc.Bin(api.OpLess, a, b)
			isValue(t, v, e, num(map[bool]int{true: 1}[i < k]), api.OK)
			v, e = calc.Bin(api.OpSame, a, b)
			isValue(t, v, e, num(map[bool]int{true: 1}[i == k]), api.OK)
		}
	}
	r := rand.New(rand.NewSource(7))
	for range 2000 {
		u := someTypes()[r.Intn(len(someTypes()))]
		a, b := anyValue(r, u), anyValue(r, u)
		for _, op := range []int{api.OpLess, api.OpSame} {
			want := modelBin(op, a, b)
			v, e := calc.Eval(nil, []api.Type{u, u}, []api.Value{a, b}, bin(op, vari(0), vari(1)))
			isValue(t, v, e, want, api.OK)
			v, e = calc.Bin(op, a, b)
			isValue(t, v, e, want, api.OK)
		}
	}
}

// TestBinRefused: P5.4: ErrArg for what is not valid, and then ErrType.
func TestBinRefused(t *testing.T) {
	refused := func(op int, a, b api.Value, want api.Errno) {
		t.Helper()
		v, e := calc.Bin(op, a, b)
		isValue(t, v, e, api.Value{}, want)
	}
	for _, op := range []int{-1, 12, 13, 1 << 40, -1 << 63} {
		for _, v := range append(inOrder(), num(1<<31)) {
			refused(op, v, v, api.ErrArg)
		}
	}
	invalid := []api.Value{num(1 << 31), num(-1<<31 - 1), str("\n"), {Kind: 4}, {Kind: -1}, {S: "a"}, tag(8, num(1)), tup(num(1), str("\x7f")), {Kind: api.ValueTag}}
	for op := range api.Ops {
		for _, v := range invalid {
			for _, w := range append(inOrder(), invalid...) {
				refused(op, v, w, api.ErrArg)
				refused(op, w, v, api.ErrArg)
			}
		}
		for _, v := range inOrder() {
			for _, w := range inOrder() {
				if op != api.OpLess && op != api.OpSame && (v.Kind != api.ValueInt || w.Kind != api.ValueInt) {
					refused(op, v, w, api.ErrType)
				}
			}
		}
	}
}
