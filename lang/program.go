package lang

import "deltaworks/api"

// program reads a program.
func (r *reader) program() api.Prog {
	var p api.Prog
	for r.hasNumbered("f") {
		p.Funs = append(p.Funs, r.fun(len(p.Funs)))
	}
	for r.hasNumbered("r") {
		r.relation(&p)
	}
	if r.skip("out") {
		p.Outs = listed(r, ",", from(1), r.named)
	}
	return p
}

// fun reads the function n.
func (r *reader) fun(n int) api.Fun {
	r.defined("f", n)
	r.need("(")
	params := upTo(r, ")", ",", from(0), r.kind)
	r.need("=")
	return api.Fun{Params: params, Body: r.exp()}
}

// relation reads an input of a program, or a view, behind which no input comes.
func (r *reader) relation(p *api.Prog) {
	r.defined("r", len(p.Inputs)+len(p.Views))
	if len(p.Views) == 0 && r.skip(":") {
		p.Inputs = append(p.Inputs, r.kind())
		return
	}
	r.need("=")
	t := r.take()
	v := api.View{Op: r.means(t, ofViews).op}
	views()[v.Op].read(r, &v)
	p.Views = append(p.Views, v)
}

// named reads which relation is meant.
func (r *reader) named() int { return r.numbered("r") }

// made reads of which relations a view is made, and by which expressions.
func (r *reader) made(v *api.View) {
	f := views()[v.Op]
	r.by(v, f.from, f.parts)
}

func (r *reader) by(v *api.View, many, parts bounds) {
	v.From = listed(r, ",", many, r.named)
	if parts.most > 0 {
		r.need("{")
		v.F = upTo(r, "}", ";", parts, r.exp)
	}
}

func (r *reader) fold(v *api.View) {
	t := r.take()
	v.N = r.means(t, ofFolds).n
	r.by(v, only(1), folds()[v.N].parts)
}

func (r *reader) rules(v *api.View) {
	n := r.number()
	r.unless(n.digits[0] != '-', n, api.ErrForm)
	v.N = r.count(n, n.digits, numberDigits)
	v.T = r.kind()
	r.need("{")
	v.Rules = upTo(r, "}", ";", from(0), r.rule)
}

func (r *reader) rule() api.Rule {
	made := api.Rule{Head: r.terms()}
	for more := r.skip("if"); more; more = r.skip(",") {
		if len(made.Tests) == 0 && !r.has("test") {
			made.Body = append(made.Body, r.atom())
			continue
		}
		r.need("test")
		made.Tests = append(made.Tests, r.exp())
	}
	return made
}

func (r *reader) atom() api.Atom {
	not := r.skip("not")
	rel := r.named()
	return api.Atom{Rel: rel, Not: not, Args: r.terms()}
}
