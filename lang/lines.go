package lang

import (
	"strconv"

	"deltaworks/api"
	"deltaworks/zset"
)

// program writes a program, line by line.
func (w *writer) program(p api.Prog) {
	for n, f := range p.Funs {
		w.named("f", n)
		w.put("(")
		putList(w, ", ", f.Params, w.kind)
		w.put(") = ")
		w.exp(f.Body)
		w.put("\n")
	}
	for n, t := range p.Inputs {
		w.named("r", n)
		w.put(" : ", typeText(t), "\n")
	}
	for n, v := range p.Views {
		w.named("r", len(p.Inputs)+n)
		w.put(" = ")
		w.view(v)
		w.put("\n")
	}
	if len(p.Outs) > 0 {
		w.put("out ")
		putList(w, ", ", p.Outs, w.relation)
		w.put("\n")
	}
}

// named writes a word of which a number is a part.
func (w *writer) named(letters string, n int) {
	needReadable(numbers().hold(n))
	w.put(letters, strconv.Itoa(n))
}

func (w *writer) relation(n int) { w.named("r", n) }

func (w *writer) kind(t api.Type) { w.put(typeText(t)) }

func (w *writer) view(v api.View) {
	needReadable(v.Op >= 0 && v.Op < len(views()))
	f := views()[v.Op]
	needReadable(f.numbers.hold(v.N) && f.from.hold(len(v.From)) && f.parts.hold(len(v.F)))
	needReadable(v.Op == api.ViewRules || v.T.Kind == 0 && len(v.T.L) == 0 && len(v.Rules) == 0)
	w.put(f.word, " ")
	f.write(w, v)
}

// made writes of which relations a view is made, and by which expressions.
func (w *writer) made(v api.View) {
	putList(w, ", ", v.From, w.relation)
	if len(v.F) > 0 {
		w.put(" ")
		putBraces(w, "; ", v.F, w.exp)
	}
}

func (w *writer) fold(v api.View) {
	f := folds()[v.N]
	needReadable(f.parts.hold(len(v.F)))
	w.put(f.word, " ")
	w.made(v)
}

func (w *writer) rules(v api.View) {
	w.put(strconv.Itoa(v.N), " ", typeText(v.T), " ")
	putBraces(w, "; ", v.Rules, w.rule)
}

func (w *writer) rule(r api.Rule) {
	w.terms(r.Head)
	if len(r.Body)+len(r.Tests) > 0 {
		w.put(" if ")
	}
	putList(w, ", ", r.Body, w.atom)
	if len(r.Body) > 0 && len(r.Tests) > 0 {
		w.put(", ")
	}
	putList(w, ", ", r.Tests, w.test)
}

func (w *writer) atom(a api.Atom) {
	if a.Not {
		w.put("not ")
	}
	w.relation(a.Rel)
	w.terms(a.Args)
}

func (w *writer) test(x api.Exp) {
	w.put("test ")
	w.exp(x)
}

func (w *writer) terms(l []api.Term) {
	w.put("(")
	putList(w, ", ", l, w.term)
	w.put(")")
}

// term writes a term: a value, or a variable, beside which no value stands.
func (w *writer) term(t api.Term) {
	if t.Var == -1 {
		w.put(valueText(t.Value))
		return
	}
	v := t.Value
	needReadable(v.Kind == 0 && v.N == 0 && v.S == "" && len(v.L) == 0)
	w.named("x", t.Var)
}

// zset writes a collection. It is looked at in pieces: one of too many rows is not refused for that, but for its text, which is too long.
func (w *writer) zset(z api.Zset) {
	for from := 0; from < len(z); from += api.RowsMost - 1 {
		needReadable(zset.Check(z[from:min(len(z), from+api.RowsMost)]) == api.OK)
	}
	putBraces(w, ", ", z, w.row)
}

func (w *writer) row(row api.Item) {
	needReadable(row.N > -countEnd && row.N < countEnd)
	w.put(valueText(row.Row), ": ", strconv.Itoa(row.N))
}
