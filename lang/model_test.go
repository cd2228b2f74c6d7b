package lang_test

import (
	"math/rand"
	"strconv"
	"strings"

	"deltaworks/api"
)

// piece is a token of what is written, with what the chapter says of the blanks around it.
type piece struct {
	s             string
	ahead, behind bool // whether a blank stands there, whatever is there
	named         bool // whether it is a relation, or ends a type: ahead of what stands behind it there may be a blank
}

// pieces are the tokens of what is written, as the chapter's table says. It is told of things that no text is read as, too, as far as there is a word for each: if not, none is true.
type pieces struct {
	l    []piece
	none bool
}

func (p *pieces) put(l ...string) {
	for _, s := range l {
		p.l = append(p.l, piece{s: s, behind: strings.Contains(",;:{", s), ahead: s == "}"})
	}
}

// around puts what has blanks around it, word what has one behind it.
func (p *pieces) around(s string) { p.l = append(p.l, piece{s: s, ahead: true, behind: true}) }
func (p *pieces) word(s string)   { p.l = append(p.l, piece{s: s, behind: true}) }

func (p *pieces) rel(n int) { p.l = append(p.l, piece{s: "r" + strconv.Itoa(n), named: true}) }

// one puts one of words, if there is such a one.
func (p *pieces) one(n int, words string, put func(string)) {
	l := strings.Fields(words)
	if n < 0 || n >= len(l) {
		p.none = true
		return
	}
	put(l[n])
}

func inList[T any](p *pieces, between string, l []T, put func(T)) {
	for i, x := range l {
		if i > 0 {
			p.put(between)
		}
		put(x)
	}
}

func (p *pieces) quoted(s string) {
	p.put(`"` + strings.NewReplacer(`"`, `\"`, `\`, `\\`).Replace(s) + `"`)
}

func (p *pieces) value(v api.Value) {
	switch v.Kind {
	case api.ValueInt:
		p.put(strconv.Itoa(v.N))
	case api.ValueText:
		p.quoted(v.S)
	case api.ValueTuple:
		p.put("(")
		inList(p, ",", v.L, p.value)
		p.put(")")
	default:
		p.put("#")
		p.word(strconv.Itoa(v.N))
		inList(p, "", v.L, p.value)
	}
}

func (p *pieces) typ(t api.Type) {
	switch t.Kind {
	case api.TypeInt, api.TypeText:
		p.put([]string{"int", "text"}[t.Kind])
	case api.TypeTuple:
		p.put("(")
		inList(p, ",", t.L, p.typ)
		p.put(")")
	default:
		p.put("[")
		for i, x := range t.L {
			if i > 0 {
				p.around("+")
			}
			p.typ(x)
		}
		p.put("]")
	}
	p.l[len(p.l)-1].named = true
}

func (p *pieces) exp(x api.Exp) {
	n := strconv.Itoa(x.N)
	plain := func(s string) { p.put(s) }
	switch x.Op {
	case api.ExpInt:
		p.put(n)
		return
	case api.ExpText:
		p.quoted(x.S)
		return
	case api.ExpVar:
		p.put("x" + n)
		return
	case api.ExpTuple:
	case api.ExpTag:
		p.put("tag" + n)
		p.typ(sums(x.T...))
		p.l[len(p.l)-1].named = false
	case api.ExpGet:
		p.put("get" + n)
	case api.ExpCall:
		p.put("f" + n)
	case api.ExpBin:
		p.one(x.N, "add sub mul div mod min max and or xor less same", plain)
	default:
		p.one(x.Op-api.ExpCase, "case let if ? size join cut", plain)
	}
	p.put("(")
	inList(p, ",", x.L, p.exp)
	p.put(")")
}

func (p *pieces) term(t api.Term) {
	if t.Var == -1 {
		p.value(t.Value)
	} else {
		p.put("x" + strconv.Itoa(t.Var))
	}
}

func (p *pieces) terms(l []api.Term) {
	p.put("(")
	inList(p, ",", l, p.term)
	p.put(")")
}

func (p *pieces) rule(r api.Rule) {
	p.terms(r.Head)
	if len(r.Body) > 0 || len(r.Tests) > 0 {
		p.around("if")
	}
	inList(p, ",", r.Body, func(a api.Atom) {
		if a.Not {
			p.word("not")
		}
		p.rel(a.Rel)
		p.l[len(p.l)-1].named = false
		p.terms(a.Args)
	})
	if len(r.Body) > 0 && len(r.Tests) > 0 {
		p.put(",")
	}
	inList(p, ",", r.Tests, func(x api.Exp) {
		p.word("test")
		p.exp(x)
	})
}

func (p *pieces) view(v api.View) {
	p.one(v.Op, "map keep sum neg once join fold rules", p.word)
	switch v.Op {
	case api.ViewFold:
		p.one(v.N, "count sum min max", p.word)
	case api.ViewRules:
		p.around(strconv.Itoa(v.N))
		p.typ(v.T)
		p.put("{")
		inList(p, ";", v.Rules, p.rule)
		p.put("}")
		return
	}
	inList(p, ",", v.From, p.rel)
	if len(v.F) > 0 {
		p.put("{")
		inList(p, ";", v.F, p.exp)
		p.put("}")
	}
}

func (p *pieces) line() { p.l = append(p.l, piece{s: "\n"}) }

func (p *pieces) prog(x api.Prog) {
	for n, f := range x.Funs {
		p.put("f"+strconv.Itoa(n), "(")
		inList(p, ",", f.Params, p.typ)
		p.put(")")
		p.around("=")
		p.exp(f.Body)
		p.line()
	}
	for n, t := range x.Inputs {
		p.rel(n)
		p.put(":")
		p.typ(t)
		p.line()
	}
	for n, v := range x.Views {
		p.rel(len(x.Inputs) + n)
		p.around("=")
		p.view(v)
		p.line()
	}
	if len(x.Outs) > 0 {
		p.word("out")
		inList(p, ",", x.Outs, p.rel)
		p.line()
	}
}

func (p *pieces) zset(z api.Zset) {
	p.put("{")
	inList(p, ",", z, func(x api.Item) {
		p.value(x.Row)
		p.put(":")
		p.put(strconv.Itoa(x.N))
	})
	p.put("}")
}

// written returns the tokens with the blanks that the chapter names.
func (p *pieces) written() string {
	var b strings.Builder
	for i, x := range p.l {
		if i > 0 && x.s != "\n" {
			last := p.l[i-1]
			if last.behind || x.ahead || last.named && (x.s == ":" || x.s == "{") {
				b.WriteByte(' ')
			}
		}
		b.WriteString(x.s)
	}
	return b.String()
}

func isIn(c byte, low, high byte) bool { return c >= low && c <= high }

// apart reports whether two tokens, one behind the other, are others unless something is between them.
func apart(a, b string) bool {
	first, second := a[0], b[0]
	inWord, digit := isIn(second, 'a', 'z') || isIn(second, '0', '9'), isIn(second, '0', '9')
	return isIn(first, 'a', 'z') && inWord || (first == '-' || isIn(first, '0', '9')) && digit
}

// spaced returns tokens with blanks and line feeds between them as they come, of which few are more than few.
func spaced(r *rand.Rand, l []string, few int) string {
	var b strings.Builder
	for i, s := range l {
		blanks := max(0, r.Intn(2*few+1)-few)
		if i > 0 && apart(l[i-1], s) {
			blanks = max(blanks, 1)
		}
		for range blanks {
			b.WriteByte(pick(r, byte(' '), '\n'))
		}
		b.WriteString(s)
	}
	b.WriteString(strings.Repeat(" ", r.Intn(2)))
	return b.String()
}

// tokens are those that are no line feeds.
func (p *pieces) tokens() (l []string) {
	for _, x := range p.l {
		if x.s != "\n" {
			l = append(l, x.s)
		}
	}
	return l
}

func piecesOf[T any](x T, put func(*pieces, T)) *pieces {
	p := &pieces{}
	put(p, x)
	return p
}
