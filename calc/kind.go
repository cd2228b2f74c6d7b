package calc

import (
	"deltaworks/api"
	"deltaworks/lists"
	"deltaworks/refuse"
	"deltaworks/types"
)

// kind is what is known of the expressions of an operation. What it is asked about has as many parts as the operation says.
type kind interface {
	// right reports whether an expression has what is needed of N, S and T, as far as it is no matter of types.
	right(e api.Exp, a around) bool
	// binds returns how many variables more there are in a part.
	binds(part int) int
	// typ returns the type of an expression that is formed, which is refused unless it is typed.
	typ(s scope[api.Type], e api.Exp) api.Type
	// value returns the value of an expression that is typed.
	value(s scope[api.Value], e api.Exp) api.Value
}

// operation is an operation of expressions: its kind, and how many parts it has.
type operation struct {
	kind
	least, most int
}

func operations() [14]operation {
	return [...]operation{
		api.ExpVar:   {variable{}, 0, 0},
		api.ExpInt:   {number{}, 0, 0},
		api.ExpText:  {letters{}, 0, 0},
		api.ExpTuple: {tuple{}, 0, api.Wide},
		api.ExpGet:   {get{}, 1, 1},
		api.ExpTag:   {tag{}, 1, 1},
		api.ExpCase:  {cases{}, 2, 1 + api.Wide},
		api.ExpLet:   {let{}, 2, 2},
		api.ExpIf:    {choice{}, 3, 3},
		api.ExpBin:   {bin{}, 2, 2},
		api.ExpSize:  {size{}, 1, 1},
		api.ExpJoin:  {join{}, 2, 2},
		api.ExpCut:   {cut{}, 3, 3},
		api.ExpCall:  {call{}, 0, api.Wide},
	}
}

// plain is what most kinds have in common: they need nothing of N, S and T, and bind no variable.
type plain struct{}

func (plain) right(api.Exp, around) bool { return true }

func (plain) binds(int) int { return 0 }

type variable struct{ plain }

func (variable) right(e api.Exp, a around) bool { return e.N >= 0 && e.N < a.vars }

func (variable) typ(s scope[api.Type], e api.Exp) api.Type { return s.vars[e.N] }

func (variable) value(s scope[api.Value], e api.Exp) api.Value { return s.vars[e.N] }

type number struct{ plain }

func (number) right(e api.Exp, _ around) bool { return isValue(wordOf(e.N)) }

func (number) typ(scope[api.Type], api.Exp) api.Type { return types.Word() }

func (number) value(_ scope[api.Value], e api.Exp) api.Value { return wordOf(e.N) }

type letters struct{ plain }

func (letters) right(e api.Exp, _ around) bool { return isValue(textOf(e.S)) }

func (letters) typ(scope[api.Type], api.Exp) api.Type { return types.Text() }

func (letters) value(_ scope[api.Value], e api.Exp) api.Value { return textOf(e.S) }

type tuple struct{ plain }

func (tuple) typ(s scope[api.Type], e api.Exp) api.Type {
	return types.NeedValid(types.Tuple(s.parts(e)...))
}

func (tuple) value(s scope[api.Value], e api.Exp) api.Value {
	return api.Value{Kind: api.ValueTuple, L: s.parts(e)}
}

type get struct{ plain }

func (get) right(e api.Exp, _ around) bool { return e.N >= 0 && e.N < api.Wide }

func (get) typ(s scope[api.Type], e api.Exp) api.Type {
	t := s.of(e.L[0])
	refuse.Unless(t.Kind == api.TypeTuple && e.N < len(t.L), api.ErrType)
	return t.L[e.N]
}

func (get) value(s scope[api.Value], e api.Exp) api.Value { return s.of(e.L[0]).L[e.N] }

type tag struct{ plain }

func (tag) right(e api.Exp, _ around) bool {
	return len(e.T) <= api.Wide && e.N >= 0 && e.N < len(e.T) && lists.All(e.T, types.IsValid)
}

func (tag) typ(s scope[api.Type], e api.Exp) api.Type {
	types.Need(s.parts(e), e.T[e.N])
	return types.NeedValid(api.Type{Kind: api.TypeSum, L: e.T})
}

func (tag) value(s scope[api.Value], e api.Exp) api.Value {
	return api.Value{Kind: api.ValueTag, N: e.N, L: s.parts(e)}
}

type let struct{ plain }

// binds returns that behind the first part all parts have a variable more.
func (let) binds(part int) int { return min(part, 1) }

func (let) typ(s scope[api.Type], e api.Exp) api.Type { return s.with(s.of(e.L[0])).of(e.L[1]) }

func (let) value(s scope[api.Value], e api.Exp) api.Value { return s.with(s.of(e.L[0])).of(e.L[1]) }

type cases struct{ let }

func (cases) typ(s scope[api.Type], e api.Exp) api.Type {
	t := s.of(e.L[0])
	refuse.Unless(t.Kind == api.TypeSum && len(t.L) == len(e.L)-1, api.ErrType)
	made := make([]api.Type, len(t.L))
	for i, x := range t.L {
		made[i] = s.with(x).of(e.L[i+1])
	}
	return types.NeedOne(made...)
}

func (cases) value(s scope[api.Value], e api.Exp) api.Value {
	v := s.of(e.L[0])
	return s.with(v.L...).of(e.L[v.N+1])
}

type choice struct{ plain }

func (choice) typ(s scope[api.Type], e api.Exp) api.Type {
	parts := s.parts(e)
	types.Need(parts[:1], types.Word())
	return types.NeedOne(parts[1:]...)
}

func (choice) value(s scope[api.Value], e api.Exp) api.Value {
	if s.of(e.L[0]).N != 0 {
		return s.of(e.L[1])
	}
	return s.of(e.L[2])
}

type bin struct{ plain }

func (bin) right(e api.Exp, _ around) bool { return isOp(e.N) }

func (bin) typ(s scope[api.Type], e api.Exp) api.Type {
	t := types.NeedOne(s.parts(e)...)
	refuse.Unless(compares(e.N) || types.Same(t, types.Word()), api.ErrType)
	return types.Word()
}

func (bin) value(s scope[api.Value], e api.Exp) api.Value {
	return done(e.N, s.of(e.L[0]), s.of(e.L[1]))
}

type size struct{ plain }

func (size) typ(s scope[api.Type], e api.Exp) api.Type {
	types.Need(s.parts(e), types.Text())
	return types.Word()
}

func (size) value(s scope[api.Value], e api.Exp) api.Value { return wordOf(len(s.of(e.L[0]).S)) }

type join struct{ plain }

func (join) typ(s scope[api.Type], e api.Exp) api.Type {
	types.Need(s.parts(e), types.Text(), types.Text())
	return types.Text()
}

func (join) value(s scope[api.Value], e api.Exp) api.Value {
	both := s.of(e.L[0]).S + s.of(e.L[1]).S
	return textOf(both[:min(len(both), api.TextMost)])
}

type cut struct{ plain }

func (cut) typ(s scope[api.Type], e api.Exp) api.Type {
	types.Need(s.parts(e), types.Text(), types.Word(), types.Word())
	return types.Text()
}

func (cut) value(s scope[api.Value], e api.Exp) api.Value {
	v := s.parts(e)
	from, to := placeIn(v[0].S, v[1].N), placeIn(v[0].S, v[2].N)
	return textOf(v[0].S[from:max(from, to)])
}

// placeIn returns the place in a text, or its end, that is next to a number.
func placeIn(s string, n int) int { return min(max(n, 0), len(s)) }

type call struct{ plain }

func (call) right(e api.Exp, a around) bool { return a.mayCall(e.N, len(e.L)) }

func (call) typ(s scope[api.Type], e api.Exp) api.Type {
	types.Need(s.parts(e), s.funs[e.N].Params...)
	return s.types[e.N]
}

func (call) value(s scope[api.Value], e api.Exp) api.Value {
	return s.valueOf(s.parts(e), s.funs[e.N].Body)
}
