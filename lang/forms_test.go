package lang_test

import (
	"strings"
	"testing"

	"deltaworks/api"
	"deltaworks/lang"
)

// sampleText is the program of the chapter.
const sampleText = `f0(int, int) = if(less(x0, x1), x1, x0)
r0 : (int, text)
r1 = keep r0 { less(f0(get0(x0), 3), 10) }
r2 = fold count r1 { size(get1(x0)) }
r3 = rules 0 (int) { (x0) if r2(x0, x1), not r0(x0, "a"), test less(x1, 5); (7) }
r4 = rules 1 ([int + text]) { (#1 "b") }
out r2, r3
`

func sample() api.Prog {
	less := func(a, b api.Exp) api.Exp { return exp(api.ExpBin, api.OpLess, a, b) }
	get := func(n int) api.Exp { return exp(api.ExpGet, n, vari(0)) }
	few := api.Rule{
		Head:  vars(0),
		Body:  []api.Atom{{Rel: 2, Args: vars(0, 1)}, {Rel: 0, Not: true, Args: append(vars(0), is(str("a")))}},
		Tests: exps(less(vari(1), whole(5))),
	}
	return api.Prog{
		Funs:   []api.Fun{{Params: []api.Type{integer, integer}, Body: exp(api.ExpIf, 0, less(vari(0), vari(1)), vari(1), vari(0))}},
		Inputs: []api.Type{tuples(integer, letters)},
		Views: []api.View{
			view(api.ViewKeep, 0, []int{0}, less(exp(api.ExpCall, 0, get(0), whole(3)), whole(10))),
			view(api.ViewFold, api.FoldCount, []int{1}, exp(api.ExpSize, 0, get(1))),
			rules(0, tuples(integer), few, api.Rule{Head: terms(is(num(7)))}),
			rules(1, tuples(sums(integer, letters)), api.Rule{Head: terms(is(tag(1, str("b"))))}),
		},
		Outs: []int{2, 3},
	}
}

// TestSample: P7.1 and P7.2: the program of the chapter, and other examples of it.
func TestSample(t *testing.T) {
	isProg(t, sample(), sampleText)
	isExp(t, tagged(1, text("x"), integer, letters), `tag1[int + text]("x")`)
	isRead(t, lang.Read, "r0:int r1=neg r0 out r1", api.Prog{Inputs: []api.Type{integer}, Views: []api.View{view(api.ViewNeg, 0, []int{0})}, Outs: []int{1}})
}

// TestExps: P7.1 and P7.2: each form of expressions.
func TestExps(t *testing.T) {
	a, b := vari(0), text("b")
	for s, x := range map[string]api.Exp{
		"x0":                            vari(0),
		"x10":                           vari(10),
		"x999":                          vari(999),
		"0":                             whole(0),
		"-1":                            whole(-1),
		"2147483647":                    whole(api.WordHigh),
		"-2147483648":                   whole(api.WordLow),
		`""`:                            text(""),
		`"a \"\\ ~"`:                    text(`a "\ ~`),
		"()":                            list(),
		"(x0)":                          list(a),
		`(x0, "b", ())`:                 list(a, b, list()),
		"(0, 1, 2, 3, 4, 5, 6, 7, 8)":   list(whole(0), whole(1), whole(2), whole(3), whole(4), whole(5), whole(6), whole(7), whole(8)),
		"get0(x0)":                      exp(api.ExpGet, 0, a),
		"get999(x0)":                    exp(api.ExpGet, 999, a),
		"tag0[int](x0)":                 tagged(0, a, integer),
		`tag999[(int, ()) + text]("b")`: tagged(999, b, tuples(integer, tuples()), letters),
		"tag1[[int] + int](x0)":         tagged(1, a, sums(integer), integer),
		`case(x0, "b")`:                 exp(api.ExpCase, 0, a, b),
		`case(x0, "b", x0, "b")`:        exp(api.ExpCase, 0, a, b, a, b),
		`let(x0, "b")`:                  exp(api.ExpLet, 0, a, b),
		`if(x0, "b", x0)`:               exp(api.ExpIf, 0, a, b, a),
		`size("b")`:                     exp(api.ExpSize, 0, b),
		`join(x0, "b")`:                 exp(api.ExpJoin, 0, a, b),
		`cut(x0, "b", -5)`:              exp(api.ExpCut, 0, a, b, whole(-5)),
		"f0()":                          exp(api.ExpCall, 0),
		`f12(x0, "b", 3)`:               exp(api.ExpCall, 12, a, b, whole(3)),
		"f999(x0)":                      exp(api.ExpCall, 999, a),
	} {
		isExp(t, x, s)
	}
	for op, s := range strings.Fields("add sub mul div mod min max and or xor less same") {
		isExp(t, exp(api.ExpBin, op, a, b), s+`(x0, "b")`)
	}
}

// TestViews: P7.1 and P7.2: each form of functions, inputs, views and answers.
func TestViews(t *testing.T) {
	a, b, c := vari(0), whole(-7), list(vari(1))
	for s, p := range map[string]api.Prog{
		"":                   {},
		"out r0\n":           {Outs: []int{0}},
		"out r999, r7, r7\n": {Outs: []int{999, 7, 7}},
		"f0() = x0\n":        {Funs: []api.Fun{{Body: a}}},
		"f0() = x0\nf1(text) = -7\nf2([int + text], (), (int, int)) = f9()\n": {Funs: []api.Fun{
			{Body: a}, {Params: []api.Type{letters}, Body: b},
			{Params: []api.Type{sums(integer, letters), tuples(), tuples(integer, integer)}, Body: exp(api.ExpCall, 9)},
		}},
		"r0 : int\nr1 : text\nr2 : ()\nr3 : [()]\n": {Inputs: []api.Type{integer, letters, tuples(), sums(tuples())}},
		"f0() = x0\nr0 : int\nr1 = neg r0\nout r0\n": {
			Funs: []api.Fun{{Body: a}}, Inputs: []api.Type{integer}, Views: []api.View{view(api.ViewNeg, 0, []int{0})}, Outs: []int{0},
		},
		"r0 = map r5 { x0 }\n":                   of(view(api.ViewMap, 0, []int{5}, a)),
		"r0 = map r5 { x0; -7; (x1); x0; -7 }\n": of(view(api.ViewMap, 0, []int{5}, a, b, c, a, b)),
		"r0 = keep r0 { -7 }\n":                  of(view(api.ViewKeep, 0, []int{0}, b)),
		"r0 = sum r0\n":                          of(view(api.ViewSum, 0, []int{0})),
		"r0 = sum r1, r2, r3, r4, r5, r6, r7\n":  of(view(api.ViewSum, 0, []int{1, 2, 3, 4, 5, 6, 7})),
		"r0 = neg r999\n":                        of(view(api.ViewNeg, 0, []int{999})),
		"r0 = once r1\n":                         of(view(api.ViewOnce, 0, []int{1})),
		"r0 = join r2, r1 { x0; -7; (x1) }\n":    of(view(api.ViewJoin, 0, []int{2, 1}, a, b, c)),
		"r0 = fold count r1 { (x1) }\n":          of(view(api.ViewFold, api.FoldCount, []int{1}, c)),
		"r0 = fold sum r1 { x0; -7 }\n":          of(view(api.ViewFold, api.FoldSum, []int{1}, a, b)),
		"r0 = fold min r1 { x0; -7 }\n":          of(view(api.ViewFold, api.FoldMin, []int{1}, a, b)),
		"r0 = fold max r1 { x0; -7 }\n":          of(view(api.ViewFold, api.FoldMax, []int{1}, a, b)),
		"r0 = sum r0\nr1 = sum r1, r1\nout r1\n": {Views: []api.View{view(api.ViewSum, 0, []int{0}), view(api.ViewSum, 0, []int{1, 1})}, Outs: []int{1}},
	} {
		isProg(t, p, s)
	}
}

// TestRules: P7.1 and P7.2: each form of rules, atoms and terms.
func TestRules(t *testing.T) {
	a, b := vari(0), exp(api.ExpIf, 0, vari(0), vari(1), list())
	atom := func(not bool, rel int, args ...api.Term) api.Atom {
		return api.Atom{Rel: rel, Not: not, Args: args}
	}
	all := terms(is(num(-5)), is(str("\"")), is(tup()), is(tup(num(1), tag(0, num(2)))), is(tag(7, tag(1, str("")))))
	for s, l := range map[string][]api.Rule{
		"{ }":                                    nil,
		"{ () }":                                 {{}},
		"{ (); () }":                             {{}, {}},
		"{ (x0) }":                               {{Head: vars(0)}},
		"{ (x999, x0, 5) }":                      {{Head: append(vars(999, 0), is(num(5)))}},
		"{ (x0) if r0() }":                       {{Head: vars(0), Body: []api.Atom{atom(false, 0)}}},
		"{ () if not r999(x0, x1) }":             {{Body: []api.Atom{atom(true, 999, vars(0, 1)...)}}},
		"{ () if test x0 }":                      {{Tests: exps(a)}},
		"{ () if test x0, test if(x0, x1, ()) }": {{Tests: exps(a, b)}},
		"{ () if not r1(), r2(x0), not r1(), test x0, test x0 }":                 {{Body: []api.Atom{atom(true, 1), atom(false, 2, vars(0)...), atom(true, 1)}, Tests: exps(a, a)}},
		`{ () if r0(-5, "\"", (), (1, #0 2), #7 #1 ""), test x0; (x0) if r0() }`: {{Body: []api.Atom{atom(false, 0, all...)}, Tests: exps(a)}, {Head: vars(0), Body: []api.Atom{atom(false, 0)}}},
		`{ (-5, "\"", (), (1, #0 2), #7 #1 "") }`:                                {{Head: all}},
	} {
		isProg(t, of(rules(0, tuples(integer), l...)), "r0 = rules 0 (int) "+s+"\n")
	}
	for s, v := range map[string]api.View{
		"rules 0 int { }":               rules(0, integer),
		"rules 12 text { }":             rules(12, letters),
		"rules 999 () { }":              rules(999, tuples()),
		"rules 1 [int + (text)] { () }": rules(1, sums(integer, tuples(letters)), api.Rule{}),
	} {
		isProg(t, of(v), "r0 = "+s+"\n")
	}
}

// TestZsets: P7.1 and P7.2: collections; those that are read are canonical.
func TestZsets(t *testing.T) {
	for s, z := range map[string]api.Zset{
		"{ }":       nil,
		"{ 1: 3 }":  {row(num(1), 3)},
		"{ 1: -1 }": {row(num(1), -1)},
		"{ -5: 1, 0: 999999999999999999, 2147483647: -999999999999999999 }": {row(num(-5), 1), row(num(0), 999999999999999999), row(num(api.WordHigh), -999999999999999999)},
		`{ "": 1, "\\": 2, (): 3, (1, "a"): 4, #0 (): 5, #1 -2: 6 }`: {
			row(str(""), 1), row(str("\\"), 2), row(tup(), 3), row(tup(num(1), str("a")), 4), row(tag(0, tup()), 5), row(tag(1, num(-2)), 6),
		},
	} {
		isZset(t, z, s)
	}
	for s, z := range map[string]api.Zset{
		"{ 2: 1, 1: 3, 2: -1 }":              {row(num(1), 3)},
		"{1:1,1:1,1:1}":                      {row(num(1), 3)},
		"{ 1: 0 }":                           nil,
		"{ 1: 0, 1: 0, 0: 1 }":               {row(num(0), 1)},
		"{(2):1,(1,2):1,(1):-1}":             {row(tup(num(1)), -1), row(tup(num(1), num(2)), 1), row(tup(num(2)), 1)},
		"{ #1 1: 1, \"a\": 2, (): 3, 7: 4 }": {row(num(7), 4), row(str("a"), 2), row(tup(), 3), row(tag(1, num(1)), 1)},
	} {
		isRead(t, lang.ReadZset, s, z)
	}
}

// TestCountsWrap: P7.1: counts are added, also where more than 64 bits would be needed for it (R5).
func TestCountsWrap(t *testing.T) {
	most := "1:999999999999999999,"
	isRead(t, lang.ReadZset, "{"+most+"1:1}", api.Zset{row(num(1), 1e18)})
	n := 0
	for range 30 {
		n += 999999999999999999
	}
	isRead(t, lang.ReadZset, "{"+strings.Repeat(most, 30)+"0:0}", api.Zset{row(num(1), n)})
	if n > 0 {
		t.Error(n)
	}
}

// TestBlanks: P7.1 and P7.4: blanks and line feeds stand between tokens, or do not.
func TestBlanks(t *testing.T) {
	for _, s := range []string{
		`f0(int,int)=if(less(x0,x1),x1,x0)r0:(int,text)r1=keep r0{less(f0(get0(x0),3),10)}r2=fold count r1{size(get1(x0))}r3=rules 0(int){(x0)if r2(x0,x1),not r0(x0,"a"),test less(x1,5);(7)}r4=rules 1([int+text]){(#1"b")}out r2,r3`,
		"\n\n " + strings.Join(strings.Fields(sampleText), " \n\n  ") + "\n ",
		strings.ReplaceAll(sampleText, "(", " ( "),
	} {
		isRead(t, lang.Read, s, sample())
	}
	isRead(t, lang.ReadExp, " \n x0\n", vari(0))
	isRead(t, lang.ReadExp, "tag1\n[\nint\n+\ntext\n]\n(\n\"x\"\n)", tagged(1, text("x"), integer, letters))
	isRead(t, lang.ReadExp, "(x0,-1)", list(vari(0), whole(-1)))
	isRead(t, lang.ReadZset, "{#1-1:-1}", api.Zset{row(tag(1, num(-1)), -1)})
	isRead(t, lang.ReadZset, "\n{\n1\n:\n1\n,\n#\n0\n\"a\"\n:\n2\n}\n", api.Zset{row(num(1), 1), row(tag(0, str("a")), 2)})
	isRead(t, lang.Read, "r0=rules 0int{}", of(rules(0, integer)))
	isRead(t, lang.Read, " \n", api.Prog{})
}
