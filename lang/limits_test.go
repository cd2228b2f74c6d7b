package lang_test

import (
	"slices"
	"strings"
	"testing"

	"deltaworks/api"
	"deltaworks/lang"
)

// TestLongTexts: P7.1: of texts that are too long nothing is looked at, and the place is 0; others may be as long as that.
func TestLongTexts(t *testing.T) {
	blanks := strings.Repeat(" ", 20000)
	isRead(t, lang.Read, blanks, api.Prog{})
	isRead(t, lang.ReadExp, blanks[2:]+"x0", vari(0))
	isRead(t, lang.ReadZset, "{"+blanks[2:]+"}", nil)
	isRefused(t, lang.ReadExp, blanks, 20000, api.ErrForm)
	for _, s := range []string{blanks + " ", blanks + "\x00", "?" + blanks, "{" + blanks + "}", "x0" + blanks, strings.Repeat("(", 1<<20)} {
		isRefused(t, lang.Read, s, 0, api.ErrLong)
		isRefused(t, lang.ReadExp, s, 0, api.ErrLong)
		isRefused(t, lang.ReadZset, s, 0, api.ErrLong)
	}
}

// TestDeepTexts: P1: texts whose parts are as deep as can be.
func TestDeepTexts(t *testing.T) {
	deep := strings.Repeat("(", 10000)
	isRefused(t, lang.ReadExp, deep+deep, 20000, api.ErrForm)
	isRefused(t, lang.ReadZset, "{"+deep+deep[1:], 20000, api.ErrForm)
	isRefused(t, lang.Read, "r0:"+deep, 10003, api.ErrForm)
	isRefused(t, lang.ReadZset, "{"+strings.Repeat("#0", 9999), 19999, api.ErrForm)
	isRefused(t, lang.ReadZset, "{"+deep+strings.Repeat(")", 9990)+":1}", 1+10000-7, api.ErrFull)
	isRefused(t, lang.Read, "r0:"+deep+strings.Repeat(")", 9990), 3+10000-7, api.ErrFull)
	s := deep + strings.Repeat(")", 10000)
	x, at, e := lang.ReadExp(s)
	n := 0
	for y := x; len(y.L) == 1; y = y.L[0] {
		n++
	}
	if n != 9999 || at != 0 || e != api.OK {
		t.Error(n, at, e)
	}
	isWritten(t, lang.WriteExp, x, s, api.OK)
	isWritten(t, lang.WriteExp, list(x), "", api.ErrLong)
}

// rising returns a collection of so many words, each once.
func rising(n int) (z api.Zset) {
	for i := range n {
		z = append(z, row(num(10000+i), 1))
	}
	return z
}

// TestLongWriting: P7.2: a text that is written has up to 20000 bytes, also where there are shorter ones; what cannot be read is refused for that first.
func TestLongWriting(t *testing.T) {
	zeros := times(6665, whole(0))
	isExp(t, list(append(exps(whole(100)), zeros...)...), "(100"+strings.Repeat(", 0", 6665)+")")
	isWritten(t, lang.WriteExp, list(append(exps(whole(1000)), zeros...)...), "", api.ErrLong)
	isWritten(t, lang.WriteExp, list(append(zeros, zeros...)...), "", api.ErrLong)
	isWritten(t, lang.WriteExp, list(append(slices.Clip(zeros), append(zeros, whole(1<<31))...)...), "", api.ErrArg)
	isWritten(t, lang.WriteExp, list(append(exps(vari(-1)), append(zeros, zeros...)...)...), "", api.ErrArg)

	outs := times(4998, 0)
	isProg(t, api.Prog{Outs: append(outs, 10)}, "out "+strings.Repeat("r0, ", 4998)+"r10\n")
	isWritten(t, lang.Write, api.Prog{Outs: append(outs, 100)}, "", api.ErrLong)
	isWritten(t, lang.Write, api.Prog{Outs: append(slices.Clip(outs), append(outs, -1)...)}, "", api.ErrArg)
	isWritten(t, lang.Write, api.Prog{Funs: []api.Fun{{Body: list(append(zeros, zeros...)...)}}, Outs: []int{1000}}, "", api.ErrArg)
	isWritten(t, lang.Write, api.Prog{Inputs: times(1000, letters), Outs: times(1500, 999)}, "", api.ErrLong)
	isWritten(t, lang.Write, api.Prog{Inputs: times(1001, letters), Outs: times(1500, 999)}, "", api.ErrArg)
	isWritten(t, lang.Write, api.Prog{Inputs: times(1001, integer), Outs: times(1500, 999)}, "", api.ErrArg)

	z := rising(1999)
	z[7].N = 123456789
	s, e := lang.WriteZset(z)
	if len(s) != 20000 || e != api.OK {
		t.Error(len(s), e)
	}
	isRead(t, lang.ReadZset, s, z)
	z[8].N = 12
	isWritten(t, lang.WriteZset, z, "", api.ErrLong)
	z[1998].N = 0
	isWritten(t, lang.WriteZset, z, "", api.ErrArg)
	for _, n := range []int{20000, 20001, 39999, 40000, 50000} {
		z := rising(n)
		isWritten(t, lang.WriteZset, z, "", api.ErrLong)
		for _, at := range []int{n - 1, 19999, 19998} {
			z := slices.Clone(z)
			z[at].Row = z[at-1].Row
			isWritten(t, lang.WriteZset, z, "", api.ErrArg)
		}
		z[n-1].N = 1e18
		isWritten(t, lang.WriteZset, z, "", api.ErrArg)
	}
}

// isExpWritten fails unless nothing is written of an expression, for an error; by itself, and in programs.
func isExpWritten(t *testing.T, x api.Exp, e api.Errno) {
	t.Helper()
	isWritten(t, lang.WriteExp, x, "", e)
	isWritten(t, lang.Write, api.Prog{Funs: []api.Fun{{Body: x}}}, "", e)
	isWritten(t, lang.Write, of(view(api.ViewKeep, 0, []int{0}, x)), "", e)
	isWritten(t, lang.Write, of(rules(0, integer, api.Rule{Tests: exps(x)})), "", e)
}

// TestVeryDeepExpressions: P1: expressions that are deep, that are very many by being shared, or that are parts of themselves.
func TestVeryDeepExpressions(t *testing.T) {
	deep := func(x api.Exp, n int) api.Exp {
		for range n {
			x = list(x)
		}
		return x
	}
	double := func(x api.Exp, n int) api.Exp {
		for range n {
			x = list(x, x)
		}
		return x
	}
	isExpWritten(t, deep(vari(0), 1<<16-1), api.ErrLong)
	isExpWritten(t, deep(vari(-1), 1<<16-1), api.ErrArg)
	isExpWritten(t, deep(vari(0), 1<<20), api.ErrArg)
	isExpWritten(t, double(vari(0), 60), api.ErrLong)
	isExpWritten(t, double(vari(-1), 60), api.ErrArg)
	isExpWritten(t, list(double(vari(0), 60), vari(-1)), api.ErrArg)
	isExpWritten(t, double(deep(vari(0), 100), 1000), api.ErrLong)
	l := list(vari(0), vari(0), vari(0))
	l.L[0] = list(l.L[1:]...) // one list has other ones in it
	isExpWritten(t, double(list(l, list(l.L[:2]...)), 60), api.ErrLong)
	l.L[2] = vari(-1)
	isExpWritten(t, double(list(list(l.L[:1]...), list(l.L[:2]...)), 60), api.ErrArg)
	for n := range 3 {
		x := list(times(n+1, vari(0))...)
		x.L[n] = x
		isExpWritten(t, x, api.ErrArg)
		x.L[0] = x
		isExpWritten(t, double(x, 60), api.ErrArg)
	}
	y := list(vari(0))
	y.L[0] = exp(api.ExpCase, 0, double(vari(0), 60), deep(y, 100))
	isExpWritten(t, y, api.ErrArg)
}

// TestPartsOfThemselves: P1: values and types that are parts of themselves.
func TestPartsOfThemselves(t *testing.T) {
	v, k := tup(num(0)), tuples(integer)
	v.L[0], k.L[0] = v, k
	isWritten(t, lang.WriteZset, api.Zset{row(v, 1)}, "", api.ErrArg)
	isWritten(t, lang.WriteExp, tagged(0, vari(0), k), "", api.ErrArg)
	isWritten(t, lang.Write, api.Prog{Inputs: []api.Type{k}}, "", api.ErrArg)
	isWritten(t, lang.Write, of(rules(0, k)), "", api.ErrArg)
	isWritten(t, lang.Write, of(rules(0, integer, api.Rule{Head: terms(is(v))})), "", api.ErrArg)
	isWritten(t, lang.Write, of(rules(0, integer, api.Rule{Head: []api.Term{{Value: v}}})), "", api.ErrArg)
}
