package lang_test

import (
	"math/rand"
	"strings"
	"testing"

	"deltaworks/api"
	"deltaworks/lang"
)

// isJudged fails unless a text is refused as the grammar says, or read; it returns the error.
func isJudged[T any](t *testing.T, read func(string) (T, int, api.Errno), s string, by func(*grammar, int) []int) api.Errno {
	t.Helper()
	at, e := verdictOf(s, by)
	var none T
	if x, place, err := read(s); place != at || err != e || e != api.OK && !same(x, none) {
		t.Fatalf("%q: %d, %d, not %d, %d", preview(s), place, err, at, e)
	}
	return e
}

func isProgJudged(t *testing.T, s string) api.Errno {
	t.Helper()
	return isJudged(t, lang.Read, s, (*grammar).prog)
}

func isExpJudged(t *testing.T, s string) api.Errno {
	t.Helper()
	return isJudged(t, lang.ReadExp, s, (*grammar).exp)
}

func isZsetJudged(t *testing.T, s string) api.Errno {
	t.Helper()
	return isJudged(t, lang.ReadZset, s, (*grammar).zset)
}

// wrong is a text, and its error.
type wrong struct {
	s  string
	at int
	e  api.Errno
}

func areWrong[T any](t *testing.T, read func(string) (T, int, api.Errno), by func(*grammar, int) []int, l ...wrong) {
	t.Helper()
	for _, x := range l {
		isRefused(t, read, x.s, x.at, x.e)
		isJudged(t, read, x.s, by)
	}
}

// TestNoProgram: the errors of P7.1, of programs.
func TestNoProgram(t *testing.T) {
	areWrong(t, lang.Read, (*grammar).prog, []wrong{
		{"r0 : int r2 = neg r0", 9, api.ErrForm},
		{"r0 : int r1 = neg", 17, api.ErrForm},
		{"r0 : int r1 = neg \n", 19, api.ErrForm},
		{"r1 : int", 0, api.ErrForm},
		{"r01 : int", 0, api.ErrForm},
		{"r : int", 0, api.ErrForm},
		{"r0x : int", 0, api.ErrForm},
		{"r-0 : int", 0, api.ErrForm},
		{"r1000 : int", 0, api.ErrRange},
		{"r0001 : int", 0, api.ErrForm},
		{"f1000() = 1", 0, api.ErrRange},
		{"f1() = 1", 0, api.ErrForm},
		{"f0() = 1 f0() = 1", 9, api.ErrForm},
		{"f0() = 1 f1000() = 1", 9, api.ErrRange},
		{"r0 : int f0() = 1", 9, api.ErrForm},
		{"r0 : int f1000() = 1", 9, api.ErrForm},
		{"x0", 0, api.ErrForm},
		{"x1000", 0, api.ErrForm},
		{"5", 0, api.ErrForm},
		{"r0", 2, api.ErrForm},
		{"r0 int", 3, api.ErrForm},
		{"r0 = neg r0 r1 : int", 15, api.ErrForm},
		{"r0 : in", 5, api.ErrForm},
		{"r0 : int0", 5, api.ErrForm},
		{"r0 : 7", 5, api.ErrForm},
		{"r0 : )", 5, api.ErrForm},
		{"r0 : \"int\"", 5, api.ErrForm},
		{"r0 : {", 5, api.ErrForm},
		{"r0 : ([int)", 10, api.ErrForm},
		{"r0 : (int + int)", 10, api.ErrForm},
		{"r0 : [int + ]", 12, api.ErrForm},
		{"r0 : (int, )", 11, api.ErrForm},
		{"r0 : [()+()+()+()+()+()+()+()+()]", 5, api.ErrFull},
		{"r0 : [()+()+()+()+()+()+()+()+()", 32, api.ErrForm},
		{"r0 : (text, ((((((()))))))", 12, api.ErrFull},
		{"r0 : (((((((int)))))))", 6, api.ErrFull},
		{"f0((int, int, int, int, int, int, int, int, int), 7) = 5", 3, api.ErrFull},
		{"f0(int = 1", 7, api.ErrForm},
		{"f0 = 1", 3, api.ErrForm},
		{"f0()", 4, api.ErrForm},
		{"f0() : int", 5, api.ErrForm},
		{"f0() = 2147483648", 7, api.ErrRange},
		{"f0() = \"" + strings.Repeat("a", 101) + "\"", 7, api.ErrFull},
		{"r0 = x0", 5, api.ErrForm},
		{"r0 = add r0", 5, api.ErrForm},
		{"r0 = count r0", 5, api.ErrForm},
		{"r0 = map0 r0", 5, api.ErrForm},
		{"r0 = neg x0", 9, api.ErrForm},
		{"r0 = neg r1000", 9, api.ErrRange},
		{"r0 = neg r0, r0", 11, api.ErrForm},
		{"r0 = neg r0 { 1 }", 12, api.ErrForm},
		{"r0 = sum r0, out r0", 13, api.ErrForm},
		{"r0 = sum out r0", 9, api.ErrForm},
		{"r0 = sum r0 { 1 }", 12, api.ErrForm},
		{"r0 = keep r0 { 1; 2 }", 16, api.ErrForm},
		{"r0 = keep r0 { }", 15, api.ErrForm},
		{"r0 = keep r0 1", 13, api.ErrForm},
		{"r0 = keep r0, r0 { 1 }", 12, api.ErrForm},
		{"r0 = map r0 { }", 14, api.ErrForm},
		{"r0 = map r0 { 1, 2 }", 15, api.ErrForm},
		{"r0 = map r0 { 1; }", 17, api.ErrForm},
		{"r0 = map r0 { 1", 15, api.ErrForm},
		{"r0 = join r0 { 1; 2; 3 }", 13, api.ErrForm},
		{"r0 = join r0, r0, r0 { 1; 2; 3 }", 16, api.ErrForm},
		{"r0 = join r0, r0 { 1; 2 }", 24, api.ErrForm},
		{"r0 = join r0, r0 { 1; 2; 3; 4 }", 26, api.ErrForm},
		{"r0 = fold r0 { 1 }", 10, api.ErrForm},
		{"r0 = fold count r0 { 1; 2 }", 22, api.ErrForm},
		{"r0 = fold sum r0 { 1 }", 21, api.ErrForm},
		{"r0 = fold min r0 { 1; 2; 3 }", 23, api.ErrForm},
		{"r0 = fold most r0 { 1 }", 10, api.ErrForm},
		{"r0 = fold map r0 { 1 }", 10, api.ErrForm},
		{"r0 = rules () { }", 11, api.ErrForm},
		{"r0 = rules -1 () { }", 11, api.ErrForm},
		{"r0 = rules -1000 () { }", 11, api.ErrForm},
		{"r0 = rules 1000 () { }", 11, api.ErrRange},
		{"r0 = rules 99999999999999999999 () { }", 11, api.ErrRange},
		{"r0 = rules 00 () { }", 12, api.ErrForm},
		{"r0 = rules 0 { }", 13, api.ErrForm},
		{"r0 = rules 0 () () { }", 16, api.ErrForm},
		{"r0 = rules 0 () { ; }", 18, api.ErrForm},
		{"r0 = rules 0 () { (); }", 22, api.ErrForm},
		{"r0 = rules 0 () { (), () }", 20, api.ErrForm},
		{"r0 = rules 0 () { (x0) if }", 26, api.ErrForm},
		{"r0 = rules 0 () { (x0) r0() }", 23, api.ErrForm},
		{"r0 = rules 0 () { (x0) if test 1, r0(x0) }", 34, api.ErrForm},
		{"r0 = rules 0 () { (x0) if test 1, not r0(x0) }", 34, api.ErrForm},
		{"r0 = rules 0 () { (x0) if not test 1 }", 30, api.ErrForm},
		{"r0 = rules 0 () { (x0) if not not r0() }", 30, api.ErrForm},
		{"r0 = rules 0 () { (x0) if r0(), }", 32, api.ErrForm},
		{"r0 = rules 0 () { (x0) if f0() }", 26, api.ErrForm},
		{"r0 = rules 0 () { (x0) if r0(), 5 }", 32, api.ErrForm},
		{"r0 = rules 0 () { (x0,) }", 22, api.ErrForm},
		{"r0 = rules 0 () { ((x0)) }", 20, api.ErrForm},
		{"r0 = rules 0 () { (x1000) }", 19, api.ErrRange},
		{"r0 = rules 0 () { (x00) }", 19, api.ErrForm},
		{"r0 = rules 0 () { (r0) }", 19, api.ErrForm},
		{"r0 = rules 0 () { (add(1, 2)) }", 19, api.ErrForm},
		{"r0 = rules 0 () { (2147483648) }", 19, api.ErrRange},
		{"r0 = rules 0 () { (#8 1) }", 19, api.ErrFull},
		{"r0 = rules 0 () { (#8 x0) }", 22, api.ErrForm},
		{"r0 = rules 0 () { (1, (2, #-1 5)) }", 26, api.ErrFull},
		{"r0 = rules 0 () { (#2147483648 5) }", 20, api.ErrRange},
		{"r0 = rules 0 () { (#1000 5) }", 19, api.ErrFull},
		{"r0 = rules 0 () { (# (1)) }", 21, api.ErrForm},
		{"r0 = rules 0 () { (\"" + strings.Repeat("a", 101) + "\") }", 19, api.ErrFull},
		{"out", 3, api.ErrForm},
		{"out r0,", 7, api.ErrForm},
		{"out r0 r1", 7, api.ErrForm},
		{"out r0; r1", 6, api.ErrForm},
		{"out r0 out r0", 7, api.ErrForm},
		{"out 0", 4, api.ErrForm},
		{"out r1000", 4, api.ErrRange},
		{"out x1000", 4, api.ErrForm},
		{"out0 r0", 0, api.ErrForm},
		{"r0 : int ?", 9, api.ErrForm},
		{"r0 : int\tr1 : int", 8, api.ErrForm},
		{"r0 : int\r\n", 8, api.ErrForm},
		{"\x00", 0, api.ErrForm},
		{" \x80", 1, api.ErrForm},
		{"R0 : int", 0, api.ErrForm},
	}...)
}

// TestNoExpression: the errors of P7.1, of expressions.
func TestNoExpression(t *testing.T) {
	areWrong(t, lang.ReadExp, (*grammar).exp, []wrong{
		{"", 0, api.ErrForm},
		{" \n", 2, api.ErrForm},
		{"add(x0, 2147483648)", 8, api.ErrRange},
		{"add(x0, -2147483649)", 8, api.ErrRange},
		{"add(x0, 99999999999999999999)", 8, api.ErrRange},
		{"add(x0)", 6, api.ErrForm},
		{"add(x0, 1, 2)", 9, api.ErrForm},
		{"add(x0, 1", 9, api.ErrForm},
		{"add(x0 1)", 7, api.ErrForm},
		{"add(x0; 1)", 6, api.ErrForm},
		{"add0(x0, 1)", 0, api.ErrForm},
		{"add", 3, api.ErrForm},
		{"add x0", 4, api.ErrForm},
		{"case()", 5, api.ErrForm},
		{"case(x0)", 7, api.ErrForm},
		{"let(x0)", 6, api.ErrForm},
		{"if(x0, x0)", 9, api.ErrForm},
		{"if(x0, x0, x0, x0)", 13, api.ErrForm},
		{"cut(x0, x0)", 10, api.ErrForm},
		{"size()", 5, api.ErrForm},
		{"size(x0, x0)", 7, api.ErrForm},
		{"join(x0)", 7, api.ErrForm},
		{"get0()", 5, api.ErrForm},
		{"get0(x0, x0)", 7, api.ErrForm},
		{"get(x0)", 0, api.ErrForm},
		{"get00(x0)", 0, api.ErrForm},
		{"get1000(x0)", 0, api.ErrRange},
		{"get2 x0", 5, api.ErrForm},
		{"tag1000[int](x0)", 0, api.ErrRange},
		{"tag1(x0)", 4, api.ErrForm},
		{"tag1 int(x0)", 5, api.ErrForm},
		{"tag1(int)(x0)", 4, api.ErrForm},
		{"tag1[int]", 9, api.ErrForm},
		{"tag1[int](x0, x0)", 12, api.ErrForm},
		{"tag1[int, int](x0)", 8, api.ErrForm},
		{"tag1[](x0)", 5, api.ErrForm},
		{"tag1[int+int+int+int+int+int+int+int+int](x0)", 4, api.ErrFull},
		{"tag1[((((((int))))))](x0)", 5, api.ErrFull},
		{"tag1[(((((int)))))](x0)", 4, api.ErrFull},
		{"f1000()", 0, api.ErrRange},
		{"f(x0)", 0, api.ErrForm},
		{"f0", 2, api.ErrForm},
		{"x", 0, api.ErrForm},
		{"x1000", 0, api.ErrRange},
		{"x99999999999999999999999", 0, api.ErrRange},
		{"x01", 0, api.ErrForm},
		{"x0000", 0, api.ErrForm},
		{"x0y", 0, api.ErrForm},
		{"y0", 0, api.ErrForm},
		{"r0", 0, api.ErrForm},
		{"map", 0, api.ErrForm},
		{"count(x0)", 0, api.ErrForm},
		{"int", 0, api.ErrForm},
		{"#1 2", 0, api.ErrForm},
		{"(1, (2, )", 8, api.ErrForm},
		{"(", 1, api.ErrForm},
		{")", 0, api.ErrForm},
		{"(1, )", 4, api.ErrForm},
		{"[1]", 0, api.ErrForm},
		{"05", 1, api.ErrForm},
		{"00", 1, api.ErrForm},
		{"-0", 0, api.ErrForm},
		{"-01", 0, api.ErrForm},
		{"--1", 0, api.ErrForm},
		{"-", 0, api.ErrForm},
		{"- 5", 0, api.ErrForm},
		{"+5", 0, api.ErrForm},
		{"-x0", 0, api.ErrForm},
		{"1-", 1, api.ErrForm},
		{"1-1", 1, api.ErrForm},
		{"1 2", 2, api.ErrForm},
		{"x0 x1", 3, api.ErrForm},
		{"X", 0, api.ErrForm},
		{"x0X", 2, api.ErrForm},
		{`"`, 0, api.ErrForm},
		{`"a`, 0, api.ErrForm},
		{`"a\`, 0, api.ErrForm},
		{`"a\"`, 0, api.ErrForm},
		{`"a\b"`, 0, api.ErrForm},
		{"\"a\nb\"", 0, api.ErrForm},
		{"\"\x7f\"", 0, api.ErrForm},
		{"\"\x1f\"", 0, api.ErrForm},
		{`"a""b"`, 3, api.ErrForm},
		{`"a`, 0, api.ErrForm},
		{"(\"" + strings.Repeat("a", 101) + "\", 2147483648", 1, api.ErrFull},
		{"(2147483648, \"" + strings.Repeat("a", 101) + "\"", 1, api.ErrRange},
		{"\"" + strings.Repeat(`\\`, 101) + "\"", 0, api.ErrFull},
	}...)
	isRead(t, lang.ReadExp, "\""+strings.Repeat("~", 100)+"\"", text(strings.Repeat("~", 100)))
	isRead(t, lang.ReadExp, "\""+strings.Repeat(`\"`, 100)+"\"", text(strings.Repeat(`"`, 100)))
	isRead(t, lang.ReadExp, "tag1[((((int))))](x0)", tagged(1, vari(0), tuples(tuples(tuples(tuples(integer))))))
}

// TestNoCollection: the errors of P7.1, of collections.
func TestNoCollection(t *testing.T) {
	areWrong(t, lang.ReadZset, (*grammar).zset, []wrong{
		{"", 0, api.ErrForm},
		{"1", 0, api.ErrForm},
		{"{", 1, api.ErrForm},
		{"}", 0, api.ErrForm},
		{"{ 1 }", 4, api.ErrForm},
		{"{ 1:", 4, api.ErrForm},
		{"{ 1: }", 5, api.ErrForm},
		{"{ 1: x1 }", 5, api.ErrForm},
		{"{ 1: \"1\" }", 5, api.ErrForm},
		{"{ 1: -0 }", 5, api.ErrForm},
		{"{ 1: 2", 6, api.ErrForm},
		{"{ 1: 2, }", 8, api.ErrForm},
		{"{ 1: 2; 2: 2 }", 6, api.ErrForm},
		{"{ 1: 2 } 3", 9, api.ErrForm},
		{"{ 1: 2 }}", 8, api.ErrForm},
		{"{ x0: 2 }", 2, api.ErrForm},
		{"{ add: 2 }", 2, api.ErrForm},
		{"{ 2147483648: 1 }", 2, api.ErrRange},
		{"{ -2147483649: 1 }", 2, api.ErrRange},
		{"{ 1: 1000000000000000000 }", 5, api.ErrRange},
		{"{ 1: -1000000000000000000 }", 5, api.ErrRange},
		{"{ 1: 99999999999999999999999 }", 5, api.ErrRange},
		{"{ 2147483648 }", 2, api.ErrRange},
		{"{ #8 1: 1 }", 2, api.ErrFull},
		{"{ #8 1 }", 2, api.ErrFull},
		{"{ #8 #9 1: 1 }", 5, api.ErrFull},
		{"{ #8: 1 }", 4, api.ErrForm},
		{"{ #x0: 1 }", 3, api.ErrForm},
		{"{ (1,2,3,4,5,6,7,8,9): 1 }", 2, api.ErrFull},
		{"{ (1,2,3,4,5,6,7,8,9: 1 }", 20, api.ErrForm},
		{"{ ((((((1)))))): 1 }", 2, api.ErrFull},
		{"{ (((((((1))))))): 1 }", 3, api.ErrFull},
		{"{ #0 #0 #0 #0 #0 #0 1: 1 }", 2, api.ErrFull},
		{"{ #0 #0 #0 #0 #0 #0 #0 1: 1 }", 5, api.ErrFull},
		{"{ (" + strings.Repeat("(1,2,3,4,5,6,7,8),", 6) + "(1,2,3,4),5): 1 }", 2, api.ErrFull},
		{"{ 1: 1, \"" + strings.Repeat("a", 101) + "\": x }", 8, api.ErrFull},
		{"{ (1, \"" + strings.Repeat("a", 101) + "\", 2: 1 }", 6, api.ErrFull},
	}...)
	isRead(t, lang.ReadZset, "{ (((((1))))): 1 }", api.Zset{row(tup(tup(tup(tup(tup(num(1)))))), 1)})
	isRead(t, lang.ReadZset, "{ #0 #0 #0 #0 #7 1: 1 }", api.Zset{row(tag(0, tag(0, tag(0, tag(0, tag(7, num(1)))))), 1)})
}

// TestSmallTexts: P7.1: all texts of few tokens are read, or refused, as the grammar says; behind one that is refused ahead of its end one token more is enough.
func TestSmallTexts(t *testing.T) {
	read := 0
	all := func(begin string, n int, tokens string, judge func(*testing.T, string) api.Errno, by func(*grammar, int) []int) {
		l := strings.Fields(tokens)
		var walk func(s string, n int)
		walk = func(s string, n int) {
			if judge(t, s) == api.OK {
				read++
			}
			if at, e := verdictOf(s, by); e != api.OK && at < len(s) {
				n = min(n, 1)
			}
			if n > 0 {
				for _, x := range l {
					walk(s+x+" ", n-1)
				}
			}
		}
		walk(begin, n)
	}
	exp := func(begin string, n int, tokens string) { all(begin, n, tokens, isExpJudged, (*grammar).exp) }
	prog := func(begin string, n int, tokens string) { all(begin, n, tokens, isProgJudged, (*grammar).prog) }
	exp("", 6, "x0 ( ) , case f3 -1 tag1 [ int ]")
	exp("", 4, `x0 ( ) , add let get1 size if cut x1000 x01 2147483648 "a" : +`)
	exp("tag1[", 5, "int text ( ) , + [ ] (")
	all("", 7, "{ } , 1 : # ( )", isZsetJudged, (*grammar).zset)
	prog("", 5, `r0 r1 f0 : = int ( ) neg sum , out 5`)
	words := "r0 r1 ( ) { } , ; : = + [ ] int 1 x0 sum count test not if rules"
	for _, s := range []string{"fold ", "map r0 { ", "keep r0 ", "join r0 ", "join r0, r0 { 1; 2 ", "rules 0 () { ", "rules 0 () { () if ", "rules 0 () { () if r1() "} {
		prog("r0 = "+s, 3, words)
	}
	prog("f0(", 4, words)
	prog("r0 : ", 4, words)
	if read < 60 {
		t.Error(read)
	}
}

// TestSmallBytes: P7.1: tokens are as long as can be.
func TestSmallBytes(t *testing.T) {
	var walk func(s string, n int)
	walk = func(s string, n int) {
		isExpJudged(t, s)
		isExpJudged(t, "(x0,"+s)
		if n > 0 {
			for _, c := range "01-x\"\\ (\n~A" {
				walk(s+string(c), n-1)
			}
		}
	}
	walk("", 4)
	for c := range 256 {
		isExpJudged(t, string([]byte{byte(c)}))
		isExpJudged(t, string([]byte{'x', '1', byte(c)}))
		isExpJudged(t, string([]byte{'1', byte(c)}))
		isExpJudged(t, string([]byte{'"', byte(c), '"'}))
		isExpJudged(t, string([]byte{'"', '\\', byte(c), '"'}))
	}
}

// alterTokens alters one token of a text, or a few of them.
func alterTokens(r *rand.Rand, l []string) []string {
	some := func() string {
		if len(l) > 0 && r.Intn(2) == 0 {
			return pick(r, l...)
		}
		return pick(r, strings.Fields(`r0 r1 r2 f0 f1 x0 x1 x1000 r1000 f1000 get1000 tag1000 x01 get1 tag1 ( ) [ ] { } , ; : = + # 0 1 8 -1 1000 2147483648 -2147483649 1000000000000000000 "a" "" out map keep sum neg once join fold count min max rules not test if case let size cut add int text y`)...)
	}
	if r.Intn(40) == 0 {
		return append(l, `"`+strings.Repeat("a", 101)+`"`)
	}
	at := r.Intn(len(l) + 1)
	made := append([]string{}, l[:at]...)
	rest := l[at:]
	switch n := min(len(rest), 1+r.Intn(3)); r.Intn(4) {
	case 0:
		return append(append(made, some()), rest...)
	case 1:
		return append(made, rest[n:]...)
	case 2:
		made = append(made, some())
		return append(made, rest[min(1, len(rest)):]...)
	default:
		return append(append(made, rest[:n]...), rest...)
	}
}

// alterBytes alters a byte of a text.
func alterBytes(r *rand.Rand, s string) string {
	at := r.Intn(len(s) + 1)
	c := string(pick(r, byte(r.Intn(256)), "0159"[r.Intn(4)], " \n(),"[r.Intn(5)], "xrfa\"\\-"[r.Intn(7)]))
	c = c[:1]
	if at == len(s) || r.Intn(2) == 0 {
		return s[:at] + c + s[at:]
	}
	return s[:at] + c[:r.Intn(2)] + s[at+1:]
}

// altered returns a text of tokens of which few are altered.
func altered(r *rand.Rand, l []string) string {
	for range r.Intn(3) {
		l = alterTokens(r, l)
	}
	s := spaced(r, l, 1)
	if r.Intn(3) == 0 {
		s = alterBytes(r, s)
	}
	return s
}

// TestAltered: P7.1: texts of which few tokens, or bytes, are altered are read, or refused, as the grammar says.
func TestAltered(t *testing.T) {
	seen := map[api.Errno]int{}
	anyTimes(4, 15000, func(m maker) {
		seen[isProgJudged(t, altered(m.Rand, piecesOf(m.prog(), (*pieces).prog).tokens()))]++
		seen[isExpJudged(t, altered(m.Rand, piecesOf(m.exp(1+m.Intn(4)), (*pieces).exp).tokens()))]++
		seen[isZsetJudged(t, altered(m.Rand, piecesOf(m.zset(), (*pieces).zset).tokens()))]++
		seen[isZsetJudged(t, altered(m.Rand, piecesOf(api.Zset{row(m.value(9), 1)}, (*pieces).zset).tokens()))]++
		seen[isProgJudged(t, altered(m.Rand, piecesOf(api.Prog{Inputs: []api.Type{m.kind(9)}}, (*pieces).prog).tokens()))]++
	})
	if seen[api.OK] < 5000 || seen[api.ErrForm] < 5000 || seen[api.ErrRange] < 500 || seen[api.ErrFull] < 500 {
		t.Error(seen)
	}
}
