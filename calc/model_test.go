package calc_test

import (
	"math/big"
	"math/rand"
	"strings"
	"testing"

	"deltaworks/api"
	"deltaworks/calc"
	"deltaworks/value"
)

// model tells of expressions what the document's table says, line by line. Functions are known to be formed, and typed.
type model struct {
	funs    []api.Fun
	results []api.Type
}

// parts returns how many parts an operation has, at least and at most; none has -1.
func (model) parts(op int) (least, most int) {
	switch op {
	case api.ExpVar, api.ExpInt, api.ExpText:
		return 0, 0
	case api.ExpTuple, api.ExpCall:
		return 0, 8
	case api.ExpGet, api.ExpTag, api.ExpSize:
		return 1, 1
	case api.ExpCase:
		return 2, 9
	case api.ExpLet, api.ExpBin, api.ExpJoin:
		return 2, 2
	case api.ExpIf, api.ExpCut:
		return 3, 3
	}
	return -1, -1
}

// more returns how many variables are bound in a part.
func (model) more(op, part int) int {
	switch {
	case op == api.ExpLet && part == 1, op == api.ExpCase && part >= 1:
		return 1
	}
	return 0
}

// formed reports whether an expression is formed; with free, any function may be called.
func (m model) formed(e api.Exp, vars int, free bool) bool {
	nodes, deepest, right := 0, 0, true
	var walk func(e api.Exp, vars, deep int)
	walk = func(e api.Exp, vars, deep int) {
		nodes, deepest = nodes+1, max(deepest, deep)
		least, most := m.parts(e.Op)
		right = right && len(e.L) >= least && len(e.L) <= most && m.named(e, vars, free)
		for i, part := range e.L {
			walk(part, vars+m.more(e.Op, i), deep+1)
		}
	}
	walk(e, vars, 1)
	return right && nodes <= 60 && deepest <= 20
}

// named reports whether what a node names can be.
func (m model) named(e api.Exp, vars int, free bool) bool {
	switch e.Op {
	case api.ExpVar:
		return e.N >= 0 && e.N < vars
	case api.ExpInt:
		return e.N >= api.WordLow && e.N <= api.WordHigh
	case api.ExpText:
		return len(e.S) <= 100 && !strings.ContainsFunc(e.S, func(c rune) bool { return c < 32 || c > 126 })
	case api.ExpGet:
		return e.N >= 0 && e.N <= 7
	case api.ExpTag:
		for _, t := range e.T {
			if value.Type(t) != api.OK {
				return false
			}
		}
		return len(e.T) <= 8 && e.N >= 0 && e.N < len(e.T)
	case api.ExpBin:
		return e.N >= 0 && e.N < 12
	case api.ExpCall:
		if free {
			return e.N >= 0 && e.N < 20
		}
		return e.N >= 0 && e.N < len(m.funs) && len(e.L) == len(m.funs[e.N].Params)
	}
	return true
}

func typeText(t api.Type) string { return must(value.TypeText(t)) }

// is reports whether an expression has a type.
func (m model) is(e api.Exp, vars []api.Type, want api.Type) bool {
	t, ok := m.typ(e, vars)
	return ok && typeText(t) == typeText(want)
}

// typ returns the type of an expression that is formed, if it is typed.
func (m model) typ(e api.Exp, vars []api.Type) (t api.Type, ok bool) {
	t, ok = m.typeOf(e, vars)
	return t, ok && value.Type(t) == api.OK
}

func (m model) typeOf(e api.Exp, vars []api.Type) (t api.Type, ok bool) {
	within := func(part int, more api.Type) (api.Type, bool) {
		return m.typ(e.L[part], append(vars[:len(vars):len(vars)], more))
	}
	switch e.Op {
	case api.ExpVar:
		return vars[e.N], true
	case api.ExpInt:
		return integer, true
	case api.ExpText:
		return letters, true
	case api.ExpTuple:
		t := tuples()
		for _, part := range e.L {
			u, ok := m.typ(part, vars)
			if !ok {
				return t, false
			}
			t.L = append(t.L, u)
		}
		return t, true
	case api.ExpGet:
		u, ok := m.typ(e.L[0], vars)
		if !ok || u.Kind != api.TypeTuple || len(u.L) <= e.N {
			return t, false
		}
		return u.L[e.N], true
	case api.ExpTag:
		return sums(e.T...), m.is(e.L[0], vars, e.T[e.N])
	case api.ExpCase:
		u, ok := m.typ(e.L[0], vars)
		if !ok || u.Kind != api.TypeSum || len(u.L) != len(e.L)-1 {
			return t, false
		}
		t, ok = within(1, u.L[0])
		for i := range u.L {
			other, fine := within(i+1, u.L[i])
			if !ok || !fine || typeText(other) != typeText(t) {
				return t, false
			}
		}
		return t, true
	case api.ExpLet:
		u, ok := m.typ(e.L[0], vars)
		if !ok {
			return t, false
		}
		return within(1, u)
	case api.ExpIf:
		t, ok := m.typ(e.L[1], vars)
		return t, ok && m.is(e.L[0], vars, integer) && m.is(e.L[2], vars, t)
	case api.ExpBin:
		if e.N == api.OpLess || e.N == api.OpSame {
			t, ok := m.typ(e.L[0], vars)
			return integer, ok && m.is(e.L[1], vars, t)
		}
		return integer, m.is(e.L[0], vars, integer) && m.is(e.L[1], vars, integer)
	case api.ExpSize:
		return integer, m.is(e.L[0], vars, letters)
	case api.ExpJoin:
		return letters, m.is(e.L[0], vars, letters) && m.is(e.L[1], vars, letters)
	case api.ExpCut:
		return letters, m.is(e.L[0], vars, letters) && m.is(e.L[1], vars, integer) && m.is(e.L[2], vars, integer)
	}
	for i, part := range e.L {
		if !m.is(part, vars, m.funs[e.N].Params[i]) {
			return t, false
		}
	}
	return m.results[e.N], true
}

// eval returns the value of an expression that is typed.
func (m model) eval(e api.Exp, vars []api.Value) api.Value {
	at := func(part int) api.Value { return m.eval(e.L[part], vars) }
	within := func(part int, more api.Value) api.Value {
		return m.eval(e.L[part], append(vars[:len(vars):len(vars)], more))
	}
	var all []api.Value
	switch e.Op {
	case api.ExpTuple, api.ExpCall:
		for i := range e.L {
			all = append(all, at(i))
		}
	}
	switch e.Op {
	case api.ExpVar:
		return vars[e.N]
	case api.ExpInt:
		return num(e.N)
	case api.ExpText:
		return str(e.S)
	case api.ExpTuple:
		return tup(all...)
	case api.ExpGet:
		return at(0).L[e.N]
	case api.ExpTag:
		return tag(e.N, at(0))
	case api.ExpCase:
		return within(1+at(0).N, at(0).L[0])
	case api.ExpLet:
		return within(1, at(0))
	case api.ExpIf:
		if at(0).N == 0 {
			return at(2)
		}
		return at(1)
	case api.ExpBin:
		return modelBin(e.N, at(0), at(1))
	case api.ExpSize:
		return num(len(at(0).S))
	case api.ExpJoin:
		s := at(0).S
		for _, c := range at(1).S {
			s += string(c)
		}
		for len(s) > 100 {
			s = s[:len(s)-1]
		}
		return str(s)
	case api.ExpCut:
		s := ""
		for i, c := range at(0).S {
			if i >= at(1).N && i < at(2).N {
				s += string(c)
			}
		}
		return str(s)
	}
	return m.eval(m.funs[e.N].Body, all)
}

// modelBin returns what an operation makes of two values: with numbers of any size, of which 32 bits are kept.
func modelBin(op int, a, b api.Value) api.Value {
	x, y, n := big.NewInt(int64(a.N)), big.NewInt(int64(b.N)), new(big.Int)
	order, _ := value.Compare(a, b)
	switch op {
	case api.OpAdd:
		n.Add(x, y)
	case api.OpSub:
		n.Sub(x, y)
	case api.OpMul:
		n.Mul(x, y)
	case api.OpDiv:
		n = modelDiv(x, y)
	case api.OpMod:
		if y.Sign() != 0 {
			n.Sub(x, n.Mul(y, modelDiv(x, y)))
		}
	case api.OpMin, api.OpMax:
		n = x
		if x.Cmp(y) > 0 == (op == api.OpMin) {
			n = y
		}
	case api.OpAnd:
		n.And(x, y)
	case api.OpOr:
		n.Or(x, y)
	case api.OpXor:
		n.Xor(x, y)
	case api.OpLess:
		n.SetInt64(map[bool]int64{true: 1}[order < 0])
	case api.OpSame:
		n.SetInt64(map[bool]int64{true: 1}[order == 0])
	}
	return num(modelWord(n))
}

// modelDiv returns x by y, rounded down. Euclid's division by a number above 0 rounds down.
func modelDiv(x, y *big.Int) *big.Int {
	if y.Sign() == 0 {
		return new(big.Int)
	}
	if y.Sign() < 0 {
		x, y = new(big.Int).Neg(x), new(big.Int).Neg(y)
	}
	return new(big.Int).Div(x, y)
}

func modelWord(n *big.Int) int {
	whole := big.NewInt(1 << 32)
	m := int(new(big.Int).Mod(n, whole).Int64())
	if m > api.WordHigh {
		m -= 1 << 32
	}
	return m
}

// uses returns which variables from outside an expression reads.
func (m model) uses(e api.Exp, vars int) (l []int) {
	for n := range vars {
		if m.reads(e, n) {
			l = append(l, n)
		}
	}
	return l
}

func (m model) reads(e api.Exp, n int) bool {
	if e.Op == api.ExpVar {
		return e.N == n
	}
	for _, part := range e.L {
		if m.reads(part, n) {
			return true
		}
	}
	return false
}

// put returns an expression with those of l in the place of its variables from outside. It tells bound variables by how many were bound behind them, which stays as it is wherever an expression stands; from outside are variables whose number is -1 or less.
func (m model) put(e api.Exp, l []api.Exp, vars int) api.Exp {
	var inward func(e api.Exp, outside, there int) api.Exp
	inward = func(e api.Exp, outside, there int) api.Exp {
		return m.mapped(e, there, func(n, there int) api.Exp {
			if n < outside {
				return vari(-1 - n)
			}
			return vari(there - 1 - n)
		})
	}
	filled := m.mapped(inward(e, len(l), len(l)), 0, func(n, _ int) api.Exp {
		if n < 0 {
			return inward(l[-1-n], vars, vars)
		}
		return vari(n)
	})
	return m.mapped(filled, vars, func(n, there int) api.Exp {
		if n < 0 {
			return vari(-1 - n)
		}
		return vari(there - 1 - n)
	})
}

// mapped returns an expression with what of makes of each variable, where so many are there; what no operation names is left out.
func (m model) mapped(e api.Exp, there int, of func(n, there int) api.Exp) api.Exp {
	made := api.Exp{Op: e.Op}
	switch e.Op {
	case api.ExpVar:
		return of(e.N, there)
	case api.ExpText:
		made.S = e.S
	case api.ExpTag:
		made.N, made.T = e.N, e.T
	case api.ExpInt, api.ExpGet, api.ExpBin, api.ExpCall:
		made.N = e.N
	}
	for i, part := range e.L {
		made.L = append(made.L, m.mapped(part, there+m.more(e.Op, i), of))
	}
	return made
}

// maker makes expressions that are typed, with variables of types.
type maker struct {
	model
	r    *rand.Rand
	vars []api.Type
}

// anyType returns one of few types.
func (m maker) anyType() api.Type { return someTypes()[m.r.Intn(len(someTypes()))] }

// typed returns an expression of a type. What is made can be too great, or have tuples within that are.
func (m maker) typed(t api.Type) api.Exp {
	for {
		e := m.of(t, 1+m.r.Intn(5))
		if m.formed(e, len(m.vars), false) && m.is(e, m.vars, t) {
			return e
		}
	}
}

// of returns an expression of a type, about so deep.
func (m maker) of(t api.Type, deep int) api.Exp {
	known := m.known(t)
	if len(known) > 0 && (deep <= 0 || m.r.Intn(3) == 0) {
		return known[m.r.Intn(len(known))]
	}
	if deep <= 0 {
		return m.plain(t, 0)
	}
	switch m.r.Intn(8) {
	case 0:
		u := m.anyType()
		return let(m.of(u, deep-1), m.with(u).of(t, deep-1))
	case 1:
		return choose(m.of(integer, deep-1), m.of(t, deep-1), m.of(t, deep-1))
	case 2:
		sum := []api.Type{either, maybe}[m.r.Intn(2)]
		e := caseOf(m.of(sum, deep-1))
		for _, u := range sum.L {
			e.L = append(e.L, m.with(u).of(t, deep-2))
		}
		return e
	case 3:
		n := m.r.Intn(2)
		l := []api.Type{m.anyType(), m.anyType()}
		l[n] = t
		return get(n, m.of(tuples(l...), deep-1))
	case 4, 5:
		if e, ok := m.calls(t, deep); ok {
			return e
		}
	}
	return m.plain(t, deep)
}

func (m maker) with(t api.Type) maker {
	m.vars = append(m.vars[:len(m.vars):len(m.vars)], t)
	return m
}

// known returns the variables of a type.
func (m maker) known(t api.Type) (l []api.Exp) {
	for n, u := range m.vars {
		if alike(t, u) {
			l = append(l, vari(n))
		}
	}
	return l
}

// calls returns a call of a function of a type, if there is one.
func (m maker) calls(t api.Type, deep int) (e api.Exp, ok bool) {
	for range 3 {
		if n := m.r.Intn(len(m.funs) + 1); n < len(m.funs) && alike(m.results[n], t) {
			e = call(n)
			for _, u := range m.funs[n].Params {
				e.L = append(e.L, m.of(u, deep-1))
			}
			return e, true
		}
	}
	return e, false
}

// plain returns an expression of a type by what makes values of its kind.
func (m maker) plain(t api.Type, deep int) api.Exp {
	switch t.Kind {
	case api.TypeInt:
		return m.number(deep)
	case api.TypeText:
		return m.letters(deep)
	case api.TypeSum:
		n := m.r.Intn(len(t.L))
		return tagged(t, n, m.of(t.L[n], deep-1))
	}
	e := list()
	for _, part := range t.L {
		e.L = append(e.L, m.of(part, deep-1))
	}
	return e
}

func (m maker) number(deep int) api.Exp {
	switch k := m.r.Intn(4); {
	case deep <= 0 || k == 0:
		return whole(anyValue(m.r, integer).N)
	case k == 1:
		return size(m.of(letters, deep-1))
	case k == 2:
		u := m.anyType()
		return bin(api.OpLess+m.r.Intn(2), m.of(u, deep-1), m.of(u, deep-1))
	}
	return bin(m.r.Intn(api.Ops), m.of(integer, deep-1), m.of(integer, deep-1))
}

func (m maker) letters(deep int) api.Exp {
	switch k := m.r.Intn(3); {
	case deep <= 0 || k == 0:
		return text(anyValue(m.r, letters).S)
	case k == 1:
		return join(m.of(letters, deep-1), m.of(letters, deep-1))
	}
	return cut(m.of(letters, deep-1), m.of(integer, deep-1), m.of(integer, deep-1))
}

// anyFuns returns a model with functions, each of which may call those ahead of it.
func anyFuns(r *rand.Rand) (m model) {
	for range r.Intn(6) {
		mk := maker{model: m, r: r}
		for range r.Intn(4) {
			mk.vars = append(mk.vars, mk.anyType())
		}
		t := mk.anyType()
		m.funs = append(m.funs, fun(mk.typed(t), mk.vars...))
		m.results = append(m.results, t)
	}
	return m
}

// anyTimes gives makers with functions and variables to use, many times.
func anyTimes(seed int64, n int, use func(m maker)) {
	r := rand.New(rand.NewSource(seed))
	for range n {
		m := maker{model: anyFuns(r), r: r}
		for range r.Intn(5) {
			m.vars = append(m.vars, m.anyType())
		}
		use(m)
	}
}

// TestModel: P5.1 to P5.3: what is made to be typed is typed, and has the value that the document's table says.
func TestModel(t *testing.T) {
	anyTimes(1, 4000, func(m maker) {
		want := m.anyType()
		e := m.typed(want)
		results, err := calc.Results(m.funs)
		if err != api.OK || len(results) != len(m.funs) || calc.Check(m.funs) != api.OK {
			t.Fatalf("%v: %d", m.funs, err)
		}
		for i, u := range results {
			isType(t, u, api.OK, m.results[i], api.OK)
		}
		u, err := calc.TypeOf(m.funs, m.vars, e)
		isType(t, u, err, want, api.OK)
		values := anyValues(m.r, m.vars)
		v, err := calc.Eval(m.funs, m.vars, values, e)
		isValue(t, v, err, m.eval(e, values), api.OK)
		l, err := calc.Uses(e, len(m.vars))
		isVars(t, l, err, m.uses(e, len(m.vars)), api.OK)
		if !value.Is(v, want) || t.Failed() {
			t.Fatalf("%v of %v", e, m.vars)
		}
	})
}
