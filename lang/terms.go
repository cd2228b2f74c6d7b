package lang

import (
	"deltaworks/api"
	"deltaworks/refuse"
	"deltaworks/types"
	"deltaworks/value"
	"deltaworks/zset"
)

func (r *reader) exp() api.Exp { return r.take().exp(r) }

// value reads a value, of which nothing is left to come when it is asked whether it is valid.
func (r *reader) value() api.Value {
	t := r.take()
	v := t.value(r)
	r.unless(value.Check(v) == api.OK, t, api.ErrFull)
	return v
}

// kind reads a type.
func (r *reader) kind() api.Type {
	t := r.take()
	k := t.kind(r)
	r.unless(types.IsValid(k), t, api.ErrFull)
	return k
}

// sum reads the type of a sum, and returns the types of which it is one.
func (r *reader) sum() []api.Type {
	r.unless(r.has("["), r.comes(), api.ErrForm)
	return r.kind().L
}

// zset reads a collection.
func (r *reader) zset() api.Zset {
	r.need("{")
	return refuse.Got(zset.Make(upTo(r, "}", ",", from(0), r.row)))
}

func (r *reader) row() api.Item {
	row := r.value()
	r.need(":")
	n := r.number()
	return api.Item{Row: row, N: r.count(n, n.digits, countDigits)}
}

// term reads a term of a rule.
func (r *reader) term() api.Term {
	if r.hasNumbered("x") {
		return api.Term{Var: r.numbered("x")}
	}
	return api.Term{Var: -1, Value: r.value()}
}

func (r *reader) terms() []api.Term {
	r.need("(")
	return upTo(r, ")", ",", from(0), r.term)
}
