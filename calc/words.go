package calc

import (
	"deltaworks/api"
	"deltaworks/value"
)

// wordOp is an operation on two words. Of the number that it makes 32 bits are kept.
type wordOp struct{ of func(a, b int) int }

func wordOps() [api.Ops]wordOp {
	return [...]wordOp{
		api.OpAdd:  {func(a, b int) int { return a + b }},
		api.OpSub:  {func(a, b int) int { return a - b }},
		api.OpMul:  {func(a, b int) int { return a * b }},
		api.OpDiv:  {quotient},
		api.OpMod:  {rest},
		api.OpMin:  {func(a, b int) int { return min(a, b) }},
		api.OpMax:  {func(a, b int) int { return max(a, b) }},
		api.OpAnd:  {func(a, b int) int { return a & b }},
		api.OpOr:   {func(a, b int) int { return a | b }},
		api.OpXor:  {func(a, b int) int { return a ^ b }},
		api.OpLess: {func(a, b int) int { return flag(a < b) }},
		api.OpSame: {func(a, b int) int { return flag(a == b) }},
	}
}

// quotient returns what a by b is, rounded down; by 0 it is 0.
func quotient(a, b int) int {
	if b == 0 {
		return 0
	}
	q := a / b
	if q*b != a && (a < 0) != (b < 0) {
		q--
	}
	return q
}

// rest returns what quotient leaves of a; by 0 that is 0, too.
func rest(a, b int) int {
	if b == 0 {
		return 0
	}
	return a - b*quotient(a, b)
}

func flag(is bool) int {
	if is {
		return 1
	}
	return 0
}

func isOp(op int) bool { return op >= 0 && op < api.Ops }

// compares reports whether an operation is one on any two values.
func compares(op int) bool { return op == api.OpLess || op == api.OpSame }

// done returns what an operation makes of two values on which it can be done. Values are compared as their order is with 0.
func done(op int, a, b api.Value) api.Value {
	x, y := a.N, b.N
	if compares(op) {
		x, _ = value.Compare(a, b)
		y = 0
	}
	n := wordOps()[op].of(x, y)
	return wordOf(int(int32(n)))
}

func wordOf(n int) api.Value { return api.Value{N: n} }

func textOf(s string) api.Value { return api.Value{Kind: api.ValueText, S: s} }
