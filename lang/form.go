package lang

import (
	"math"
	"strconv"

	"deltaworks/api"
	"deltaworks/refuse"
	"deltaworks/value"
)

// Digits that numbers have, at most.
const (
	numberDigits = 3  // of those that are part of a word, and of that of rules
	countDigits  = 18 // of those that say how often a row is there
)

// What numbers of so many digits are below.
const (
	numberEnd = 1000
	countEnd  = 1_000_000_000_000_000_000
)

// bounds are from which number on, and up to which one.
type bounds struct{ least, most int }

func only(n int) bounds { return bounds{n, n} }

// numbers are those that are part of a word.
func numbers() bounds { return bounds{0, numberEnd - 1} }

func from(n int) bounds { return bounds{n, math.MaxInt} }

func (b bounds) hold(n int) bool { return n >= b.least && n <= b.most }

// name is what a word, or a mark, is called, and whether a number is part of it.
type name struct {
	letters  string
	numbered bool
}

// form is what the expressions of an operation look like: their word, what N can be, how many parts they have, and what is written ahead of the parts.
type form struct {
	name
	numbers, parts bounds
	head           func(form, api.Exp) string
}

func forms() [14]form {
	return [...]form{
		api.ExpVar:   {name{"x", true}, numbers(), only(0), form.counted},
		api.ExpInt:   {name{}, bounds{api.WordLow, api.WordHigh}, only(0), form.counted},
		api.ExpText:  {name{}, only(0), only(0), form.quoted},
		api.ExpTuple: {name{}, only(0), from(0), form.plain},
		api.ExpGet:   {name{"get", true}, numbers(), only(1), form.counted},
		api.ExpTag:   {name{"tag", true}, numbers(), only(1), form.tagged},
		api.ExpCase:  {name{"case", false}, only(0), from(2), form.plain},
		api.ExpLet:   {name{"let", false}, only(0), only(2), form.plain},
		api.ExpIf:    {name{"if", false}, only(0), only(3), form.plain},
		api.ExpBin:   {name{}, bounds{0, api.Ops - 1}, only(2), form.operation},
		api.ExpSize:  {name{"size", false}, only(0), only(1), form.plain},
		api.ExpJoin:  {name{"join", false}, only(0), only(2), form.plain},
		api.ExpCut:   {name{"cut", false}, only(0), only(3), form.plain},
		api.ExpCall:  {name{"f", true}, numbers(), from(0), form.counted},
	}
}

// operations are the words of those of ExpBin.
func operations() [api.Ops]string {
	return [...]string{
		api.OpAdd: "add", api.OpSub: "sub", api.OpMul: "mul", api.OpDiv: "div", api.OpMod: "mod", api.OpMin: "min",
		api.OpMax: "max", api.OpAnd: "and", api.OpOr: "or", api.OpXor: "xor", api.OpLess: "less", api.OpSame: "same",
	}
}

func (f form) plain(api.Exp) string { return f.letters }

func (f form) counted(x api.Exp) string { return f.letters + strconv.Itoa(x.N) }

func (f form) tagged(x api.Exp) string {
	return f.counted(x) + typeText(api.Type{Kind: api.TypeSum, L: x.T})
}

func (form) quoted(x api.Exp) string {
	return valueText(api.Value{Kind: api.ValueText, S: x.S})
}

func (form) operation(x api.Exp) string { return operations()[x.N] }

// isRight reports whether an expression is of the form, as far as neither its parts, nor its text and types, matter.
func (f form) isRight(x api.Exp) bool {
	return f.numbers.hold(x.N) && f.parts.hold(len(x.L)) && (x.Op == api.ExpText || x.S == "") && (x.Op == api.ExpTag || len(x.T) == 0)
}

func valueText(v api.Value) string { return refuse.Got(value.Text(v)) }

func typeText(t api.Type) string { return refuse.Got(value.TypeText(t)) }
