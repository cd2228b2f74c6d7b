package lang_test

import (
	"regexp"
	"slices"
	"strconv"

	"deltaworks/api"
)

// grammar reads the tokens of a text in all ways that the chapter's table leaves open: far is the first token that is in none of them, and what is told of are the other errors.
type grammar struct {
	s    string
	l    [][2]int // where tokens begin and end
	far  int
	told []verdict
}

// verdict is an error, at which token it is seen, and its place.
type verdict struct {
	token, at int
	e         api.Errno
}

// rule returns behind which tokens something ends that begins with a token.
type rule func(i int) []int

var (
	blank = regexp.MustCompile(`^[ \n]*`)
	token = regexp.MustCompile(`^(?:[a-z][a-z0-9]*|0|-?[1-9][0-9]*|"(?:[ !#-\[\]-~]|\\["\\])*"|[][(){},;:=+#])`)
	short = regexp.MustCompile("^-?[0-9]{1,18}$")
)

func newGrammar(s string) *grammar {
	g := &grammar{s: s}
	for at := 0; ; {
		at += len(blank.FindString(s[at:]))
		n := len(token.FindString(s[at:]))
		if g.l = append(g.l, [2]int{at, at + n}); n == 0 {
			return g
		}
		at += n
	}
}

func (g *grammar) text(i int) string { return g.s[g.l[i][0]:g.l[i][1]] }

func (g *grammar) tell(token, first int, e api.Errno) {
	g.told = append(g.told, verdict{token, g.l[first][0], e})
}

// compiled are the forms of tokens that were asked for.
var compiled = map[string]*regexp.Regexp{}

// like is a token of some form.
func (g *grammar) like(form string) rule {
	is := compiled[form]
	if is == nil {
		is = regexp.MustCompile("^(?:" + form + ")$")
		compiled[form] = is
	}
	return func(i int) []int {
		if i < len(g.l)-1 && is.MatchString(g.text(i)) {
			return []int{i + 1}
		}
		g.far = max(g.far, i)
		return nil
	}
}

func (g *grammar) is(s string) rule { return g.like(regexp.QuoteMeta(s)) }

// counted is a word with a number, or the one with just that number.
func (g *grammar) counted(letters string, n int) rule {
	is := g.like(letters + "(?:0|[1-9][0-9]*)")
	return func(i int) []int {
		ends := is(i)
		if ends == nil {
			return nil
		}
		digits := g.text(i)[len(letters):]
		if len(digits) > 3 {
			g.tell(i, i, api.ErrRange)
		} else if n >= 0 && digits != strconv.Itoa(n) {
			g.far = max(g.far, i)
			return nil
		}
		return ends
	}
}

func (g *grammar) any(letters string) rule { return g.counted(letters, -1) }

// number is one that is refused if it is none of a kind.
func (g *grammar) number(form string, right func(s string) bool) rule {
	is := g.like(form)
	return func(i int) []int {
		ends := is(i)
		if ends != nil && !right(g.text(i)) {
			g.tell(i, i, api.ErrRange)
		}
		return ends
	}
}

func (g *grammar) word() rule {
	return g.number("-?[0-9]+", func(s string) bool {
		_, e := strconv.ParseInt(s, 10, 32)
		return e == nil
	})
}

func (g *grammar) count() rule {
	return g.number("-?[0-9]+", short.MatchString)
}

func seq(l ...rule) rule {
	return func(i int) []int {
		ends := []int{i}
		for _, x := range l {
			var next []int
			for _, k := range ends {
				next = append(next, x(k)...)
			}
			ends = next
		}
		return ends
	}
}

func alt(l ...rule) rule {
	return func(i int) (ends []int) {
		for _, x := range l {
			ends = append(ends, x(i)...)
		}
		return ends
	}
}

func nothing(i int) []int { return []int{i} }

// more is x so many times, at least and at most, with something between each two.
func (g *grammar) more(x rule, between string, least, most int) rule {
	return func(i int) (ends []int) {
		now := []int{i}
		for n := 0; len(now) > 0; n++ {
			if n >= least {
				ends = append(ends, now...)
			}
			if n == most {
				break
			}
			next := x
			if n > 0 {
				next = seq(g.is(between), x)
			}
			var l []int
			for _, k := range now {
				l = append(l, next(k)...)
			}
			now = l
		}
		return ends
	}
}

const lots = 1 << 30

// size is how many nodes there are, and how many one within the other; 0 if something is not valid already.
type size struct{ all, deep int }

// measured is a rule for something of which it is told whether it is valid.
type measured func(i int) ([]int, size)

// checked tells of what is not valid when it is at its end.
func (g *grammar) checked(x measured, most int) rule {
	return func(i int) []int {
		ends, _ := g.sized(x, most)(i)
		return ends
	}
}

func (g *grammar) sized(x measured, most int) measured {
	return func(i int) ([]int, size) {
		ends, n := x(i)
		if ends != nil && (n.all == 0 || n.all > most || n.deep > 6) {
			g.tell(ends[0]-1, i, api.ErrFull)
			n = size{}
		}
		return ends, n
	}
}

// list is a list of valid things in marks, from so many up to 8 of them.
func (g *grammar) list(open, between, end string, least int, x measured) measured {
	return func(i int) ([]int, size) {
		sum, valid, n := size{1, 0}, true, 0
		part := func(i int) []int {
			ends, k := x(i)
			if ends != nil {
				n++
				sum.all += k.all
				sum.deep = max(sum.deep, k.deep)
				valid = valid && k.all > 0
			}
			return ends
		}
		ends := seq(g.is(open), g.more(part, between, least, lots), g.is(end))(i)
		if !valid || n > 8 {
			return ends, size{}
		}
		sum.deep++
		return ends, sum
	}
}

// first is the first one of rules that read something of a token on: no two of them do.
func first(l ...measured) measured {
	return func(i int) ([]int, size) {
		for _, x := range l {
			if ends, n := x(i); ends != nil {
				return ends, n
			}
		}
		return nil, size{}
	}
}

// leaf is something without parts.
func leaf(x rule, right func(i int) bool) measured {
	return func(i int) ([]int, size) {
		ends := x(i)
		if ends != nil && !right(i) {
			return ends, size{}
		}
		return ends, size{1, 1}
	}
}

func all(int) bool { return true }

var inside = regexp.MustCompile(`\\?.`)

func (g *grammar) isShort(i int) bool { return len(inside.FindAllString(g.text(i), -1))-2 <= 100 }

func (g *grammar) valueSized(i int) ([]int, size) {
	tagged := func(i int) ([]int, size) {
		var n size
		ends := seq(g.is("#"), g.word(), func(i int) (ends []int) {
			ends, n = g.valueSized(i)
			return ends
		})(i)
		if n.all == 0 || len(g.text(i+1)) != 1 || g.text(i+1) > "7" {
			return ends, size{}
		}
		return ends, size{n.all + 1, n.deep + 1}
	}
	return g.sized(first(leaf(g.word(), all), leaf(g.like(`".*"`), g.isShort), g.list("(", ",", ")", 0, g.valueSized), tagged), 60)(i)
}

func (g *grammar) value(i int) []int {
	ends, _ := g.valueSized(i)
	return ends
}

func (g *grammar) sum(i int) ([]int, size) {
	return g.sized(g.list("[", "+", "]", 1, g.typeSized), 40)(i)
}

func (g *grammar) typeSized(i int) ([]int, size) {
	return first(leaf(g.like("int|text"), all), g.sized(g.list("(", ",", ")", 0, g.typeSized), 40), g.sum)(i)
}

func (g *grammar) typ(i int) []int {
	ends, _ := g.typeSized(i)
	return ends
}

func (g *grammar) exp(i int) []int {
	parts := func(least, most int) rule { return seq(g.is("("), g.more(g.exp, ",", least, most), g.is(")")) }
	of := func(form string, n int) rule { return seq(g.like(form), parts(n, n)) }
	return alt(
		g.any("x"), g.word(), g.checked(leaf(g.like(`".*"`), g.isShort), 1), parts(0, lots),
		seq(g.any("get"), parts(1, 1)),
		seq(g.any("tag"), func(i int) []int { ends, _ := g.sum(i); return ends }, parts(1, 1)),
		seq(g.any("f"), parts(0, lots)),
		seq(g.is("case"), parts(2, lots)),
		of("let|join|add|sub|mul|div|mod|min|max|and|or|xor|less|same", 2), of("if|cut", 3), of("size", 1),
	)(i)
}

func (g *grammar) rule(i int) []int {
	terms := seq(g.is("("), g.more(alt(g.any("x"), g.value), ",", 0, lots), g.is(")"))
	atom := seq(alt(nothing, g.is("not")), g.any("r"), terms)
	test := seq(g.is("test"), g.exp)
	body := alt(g.more(atom, ",", 1, lots), g.more(test, ",", 1, lots), seq(g.more(atom, ",", 1, lots), g.is(","), g.more(test, ",", 1, lots)))
	return seq(terms, alt(nothing, seq(g.is("if"), body)))(i)
}

func (g *grammar) view(i int) []int {
	r := g.any("r")
	in := func(least, most int) rule { return seq(g.is("{"), g.more(g.exp, ";", least, most), g.is("}")) }
	return alt(
		seq(g.is("map"), r, in(1, lots)), seq(g.is("keep"), r, in(1, 1)), seq(g.is("sum"), g.more(r, ",", 1, lots)),
		seq(g.like("neg|once"), r), seq(g.is("join"), r, g.is(","), r, in(3, 3)),
		seq(g.is("fold"), g.is("count"), r, in(1, 1)), seq(g.is("fold"), g.like("sum|min|max"), r, in(2, 2)),
		seq(g.is("rules"), g.number("[0-9]+", func(s string) bool { return len(s) <= 3 }), g.typ, g.is("{"), g.more(g.rule, ";", 0, lots), g.is("}")),
	)(i)
}

// lines are those of a program from a function f, or relation r, on; at first there may be functions, then inputs, then views.
func (g *grammar) lines(stage, f, r int) rule {
	return func(i int) []int {
		l := []rule{g.end, seq(g.is("out"), g.more(g.any("r"), ",", 1, lots), g.end)}
		if stage == 0 {
			l = append(l, seq(g.counted("f", f), g.is("("), g.more(g.typ, ",", 0, lots), g.is(")"), g.is("="), g.exp, g.lines(0, f+1, r)))
		}
		if stage <= 1 {
			l = append(l, seq(g.counted("r", r), g.is(":"), g.typ, g.lines(1, f, r+1)))
		}
		return alt(append(l, seq(g.counted("r", r), g.is("="), g.view, g.lines(2, f, r+1)))...)(i)
	}
}

func (g *grammar) prog(i int) []int { return g.lines(0, 0, 0)(i) }

func (g *grammar) zset(i int) []int {
	return seq(g.is("{"), g.more(seq(g.value, g.is(":"), g.count()), ",", 0, lots), g.is("}"))(i)
}

// end is the end of the text: what is behind the last token is no token.
func (g *grammar) end(i int) []int {
	if i == len(g.l)-1 && g.l[i][0] == len(g.s) {
		return []int{i}
	}
	g.far = max(g.far, i)
	return nil
}

// verdictOf returns the place and the error of a text that is read by a rule.
func verdictOf(s string, by func(*grammar, int) []int) (int, api.Errno) {
	if len(s) > 20000 {
		return 0, api.ErrLong
	}
	g := newGrammar(s)
	whole := seq(func(i int) []int { return by(g, i) }, g.end)(0)
	if whole == nil {
		g.told = append([]verdict{{g.far, g.l[g.far][0], api.ErrForm}}, g.told...)
	}
	slices.SortStableFunc(g.told, func(a, b verdict) int { return a.token - b.token })
	if len(g.told) == 0 {
		return 0, api.OK
	}
	return g.told[0].at, g.told[0].e
}
