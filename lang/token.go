package lang

import (
	"deltaworks/api"
	"deltaworks/value"
)

// token is a piece of a text: where it is, and what it is called. It reads what it is the first token of, when what comes next is what is behind it.
type token interface {
	place() int
	called() name
	exp(r *reader) api.Exp
	value(r *reader) api.Value
	kind(r *reader) api.Type
}

// plain is a place at which there is no token. Tokens have it in them, and so they refuse to be the first one of whatever they do not read.
type plain struct{ at int }

func (p plain) place() int { return p.at }

func (plain) called() name { return name{} }

func (p plain) exp(r *reader) api.Exp { return begins[api.Exp](r, p) }

func (p plain) value(r *reader) api.Value { return begins[api.Value](r, p) }

func (p plain) kind(r *reader) api.Type { return begins[api.Type](r, p) }

// begins refuses a place at which nothing of a kind begins.
func begins[T any](r *reader, p plain) (none T) {
	r.unless(false, p, api.ErrForm)
	return none
}

// mark is a token of one byte.
type mark struct {
	plain
	s string
}

func (m mark) called() name { return name{letters: m.s} }

func (m mark) exp(r *reader) api.Exp {
	r.unless(m.s == "(", m, api.ErrForm)
	return api.Exp{Op: api.ExpTuple, L: upTo(r, ")", ",", from(0), r.exp)}
}

func (m mark) value(r *reader) api.Value {
	if m.s == "#" {
		n := r.number()
		tag := r.word(n, n.digits)
		return api.Value{Kind: api.ValueTag, N: tag, L: []api.Value{r.value()}}
	}
	r.unless(m.s == "(", m, api.ErrForm)
	return api.Value{Kind: api.ValueTuple, L: upTo(r, ")", ",", from(0), r.value)}
}

func (m mark) kind(r *reader) api.Type {
	if m.s == "[" {
		return api.Type{Kind: api.TypeSum, L: upTo(r, "]", "+", from(1), r.kind)}
	}
	r.unless(m.s == "(", m, api.ErrForm)
	return api.Type{Kind: api.TypeTuple, L: upTo(r, ")", ",", from(0), r.kind)}
}

// number is a token of digits, with or without a minus sign ahead.
type number struct {
	plain
	digits string
}

func (n number) exp(r *reader) api.Exp { return api.Exp{Op: api.ExpInt, N: r.word(n, n.digits)} }

func (n number) value(r *reader) api.Value { return api.Value{N: r.word(n, n.digits)} }

// quoted is a string: the text that it stands for.
type quoted struct {
	plain
	s string
}

func (q quoted) exp(r *reader) api.Exp {
	v := q.value(r)
	r.unless(value.Check(v) == api.OK, q, api.ErrFull)
	return api.Exp{Op: api.ExpText, S: v.S}
}

func (q quoted) value(*reader) api.Value { return api.Value{Kind: api.ValueText, S: q.s} }

// word is a token of letters and digits: its name, and the digits of the number that is part of it.
type word struct {
	plain
	name
	digits string
}

func (w word) called() name { return w.name }

func (w word) exp(r *reader) api.Exp {
	m := r.means(w, ofExps)
	x := api.Exp{Op: m.op, N: m.n}
	if w.numbered {
		x.N = r.count(w, w.digits, numberDigits)
	}
	if x.Op == api.ExpTag {
		x.T = r.sum()
	}
	if parts := r.forms[x.Op].parts; parts.most > 0 {
		r.need("(")
		x.L = upTo(r, ")", ",", parts, r.exp)
	}
	return x
}

func (w word) kind(r *reader) api.Type { return api.Type{Kind: r.means(w, ofTypes).op} }
