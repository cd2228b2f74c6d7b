package value_test

import (
	"strings"
	"testing"

	"deltaworks/api"
	"deltaworks/value"
)

// TestText: P1.5 and P1.6, of texts of values.
func TestText(t *testing.T) {
	for i, x := range []struct {
		v api.Value
		s string
	}{
		{sample, "(-3, \"a\\\"b\", (), #2 0)"},
		{num(0), "0"},
		{num(-10), "-10"},
		{num(api.WordLow), "-2147483648"},
		{num(api.WordHigh), "2147483647"},
		{text(""), "\"\""},
		{text("\\"), "\"\\\\\""},
		{text("\\\""), "\"\\\\\\\"\""},
		{text(" (1, 2) #~"), "\" (1, 2) #~\""},
		{text(strings.Repeat("\"", 100)), "\"" + strings.Repeat("\\\"", 100) + "\""},
		{tuple(), "()"},
		{tuple(num(1)), "(1)"},
		{tuple(tuple(), tuple(num(1), num(-2))), "((), (1, -2))"},
		{tuple(times(8, num(0))...), "(0, 0, 0, 0, 0, 0, 0, 0)"},
		{tag(7, tag(0, tuple())), "#7 #0 ()"},
		{tag(1, num(-1)), "#1 -1"},
		{tower(6), "(((((1)))))"},
	} {
		s, e := value.Text(x.v)
		v, f := value.Parse(x.s)
		if s != x.s || e != api.OK || !same(v, x.v) || f != api.OK {
			t.Errorf("%d: %s, %d, %v, %d", i, s, e, v, f)
		}
	}
	for i, v := range invalid() {
		if s, e := value.Text(v); s != "" || e != api.ErrArg {
			t.Errorf("invalid %d: %s, %d", i, s, e)
		}
	}
}

// TestParse: P1.6, of texts that are none of a value.
func TestParse(t *testing.T) {
	for _, s := range []string{
		"", " ", "1 ", " 1", "+1", "01", "00", "-", "--1", "-0", "-01", "2147483648", "-2147483649", "99999999999999999999", "1 2", "1,", "0x1", "1.0", "1e3",
		"\"", "\"a", "a\"", "\"\\n\"", "\"\\", "\"\\\"", "\"\n\"", "\"\x7f\"", "\"\x80\"", "\"\"\"", "\"" + strings.Repeat("a", 101) + "\"", "'a'",
		"(", ")", "(1,2)", "(1, 2", "(1 2)", "(1,  2)", "( 1)", "(1 )", "(1, )", "(, 1)", "(,)", "(1, , 2)", "()()", "())", "(1, 2,)", "(0, 0, 0, 0, 0, 0, 0, 0, 0)", "((((((1))))))",
		"#", "#1", "#1 ", "#8 1", "#01 1", "#-1 1", "#-0 1", "# 1 1", "#1  1", "#1\t1", "#1(1)", "#a 1", "#1 1 1", "#10 1", "#99999999999999999999 1",
		"x", "int", "[1]", "\x00", "(1, \x00)",
		"(" + strings.Repeat("(0, 0, 0, 0, 0, 0, 0, 0), ", 7) + "1)",
		strings.Repeat("(", 13000), strings.Repeat("#1 ", 4000) + "1", strings.Repeat("1", 13000), "(" + strings.Repeat("1, ", 4000) + "1)",
	} {
		if v, e := value.Parse(s); !same(v, api.Value{}) || e != api.ErrForm {
			t.Errorf("%.30q: %v, %d", s, v, e)
		}
	}
	for _, s := range []string{strings.Repeat("1", 13001), "\"" + strings.Repeat("a", 13000) + "\"", strings.Repeat(" ", 1<<20)} {
		if v, e := value.Parse(s); !same(v, api.Value{}) || e != api.ErrLong {
			t.Errorf("%.30q: %v, %d", s, v, e)
		}
	}
}

// TestLongest: P1.6, of the limits, which no valid value or type reaches.
func TestLongest(t *testing.T) {
	long := text(strings.Repeat("\\", 100))
	wide := tuple(times(8, long)...)
	v := tuple(wide, wide, wide, wide, wide, wide, tuple(long, long, long), long)
	s, e := value.Text(v)
	w, f := value.Parse(s)
	if e != api.OK || f != api.OK || !same(v, w) || len(s) > api.ValueBytes {
		t.Errorf("text: %d, %d, %d", len(s), e, f)
	}
	s, e = value.Key(v)
	w, f = value.OfKey(s)
	if e != api.OK || f != api.OK || !same(v, w) || len(s) > api.KeyBytes {
		t.Errorf("key: %d, %d, %d", len(s), e, f)
	}
}

// TestTypeText: P1.5 and P1.6, of types.
func TestTypeText(t *testing.T) {
	for i, x := range []struct {
		t api.Type
		s string
	}{
		{integer, "int"},
		{letters, "text"},
		{none, "()"},
		{sampleType, "(int, text, (), [text + () + int])"},
		{kind(api.TypeTuple, integer), "(int)"},
		{kind(api.TypeSum, letters), "[text]"},
		{kind(api.TypeSum, kind(api.TypeSum, integer, none), kind(api.TypeTuple, letters, letters)), "[[int + ()] + (text, text)]"},
		{kind(api.TypeSum, times(8, integer)...), "[int + int + int + int + int + int + int + int]"},
		{typeTower(6), "(((((int)))))"},
	} {
		s, e := value.TypeText(x.t)
		u, f := value.TypeParse(x.s)
		if s != x.s || e != api.OK || !alike(u, x.t) || f != api.OK {
			t.Errorf("%d: %s, %d, %v, %d", i, s, e, u, f)
		}
	}
	for i, u := range []api.Type{kind(9), kind(-1), kind(api.TypeSum), kind(api.TypeInt, none), typeTower(7), typeLoop(1), typeLoop(8)} {
		if s, e := value.TypeText(u); s != "" || e != api.ErrArg {
			t.Errorf("invalid %d: %s, %d", i, s, e)
		}
	}
}

// TestTypeParse: P1.6, of texts that are none of a type.
func TestTypeParse(t *testing.T) {
	for _, s := range []string{
		"", " ", "int ", " int", "Int", "in", "inttext", "int, int", "intint", "text()", "tex", "1", "\"\"",
		"[]", "[", "]", "[int", "[int + text", "[int+text]", "[int + ]", "[ + int]", "[int, text]", "[int ]", "[int +  int]",
		"(", ")", "(int,int)", "(int + int)", "(int, )", "(, int)", "(int]", "[int)", "()()", "( )", "(int, int,)",
		"(int, [])", "((((((int))))))", "[[[[[[int]]]]]]",
		"(int, int, int, int, int, int, int, int, int)", "[int + int + int + int + int + int + int + int + int]",
		strings.Repeat("(", 1000), strings.Repeat("[", 1000), strings.Repeat("1", 1000), strings.Repeat("int", 333), "\x00",
	} {
		if u, e := value.TypeParse(s); !alike(u, api.Type{}) || e != api.ErrForm {
			t.Errorf("%.30q: %v, %d", s, u, e)
		}
	}
	for _, s := range []string{strings.Repeat("1", 1001), strings.Repeat("(", 1001), "int" + strings.Repeat(" ", 1<<20)} {
		if u, e := value.TypeParse(s); !alike(u, api.Type{}) || e != api.ErrLong {
			t.Errorf("%.30q: %v, %d", s, u, e)
		}
	}
	most := "((int, int, int, int, int, int, int, int), (int, int, int, int, int, int, int, int), (int, int, int, int, int, int, int, int), (int, int, int, int, int, int, int, int), "
	if _, e := value.TypeParse(most + "int, int, int)"); e != api.OK {
		t.Errorf("40 types: %d", e)
	}
	if _, e := value.TypeParse(most + "int, int, int, int)"); e != api.ErrForm {
		t.Errorf("41 types: %d", e)
	}
}

// TestTextsThereAndBack: P1.10, of texts.
func TestTextsThereAndBack(t *testing.T) {
	texts := map[string]api.Value{}
	for i, v := range manyValues(t) {
		s, e := value.Text(v)
		w, f := value.Parse(s)
		if e != api.OK || f != api.OK || !same(v, w) {
			t.Fatalf("%d: %s, %d, %v, %d", i, s, e, w, f)
		}
		if w, ok := texts[s]; ok && !same(v, w) {
			t.Fatalf("%d: %s twice", i, s)
		}
		texts[s] = v
	}
	types := map[string]api.Type{}
	for i, u := range manyTypes() {
		s, e := value.TypeText(u)
		w, f := value.TypeParse(s)
		if e != api.OK || f != api.OK || !alike(u, w) {
			t.Fatalf("type %d: %s, %d, %v, %d", i, s, e, w, f)
		}
		if w, ok := types[s]; ok && !alike(u, w) {
			t.Fatalf("type %d: %s twice", i, s)
		}
		types[s] = u
	}
}

// TestShortTexts: P1.6 and P1.10: whatever is read is what is written of it.
func TestShortTexts(t *testing.T) {
	found := 0
	eachString("-012\"\\(), #", 5, func(s string) {
		v, e := value.Parse(s)
		w, _ := value.Text(v)
		if e == api.OK && w == s {
			found++
		} else if e != api.ErrForm || !same(v, api.Value{}) {
			t.Errorf("%q: %v, %d", s, v, e)
		}
	})
	if found == 0 {
		t.Error("nothing is read")
	}
}

// TestAlteredTexts: P1.6 and P1.10, of texts of which one byte is another one, and of what texts begin with.
func TestAlteredTexts(t *testing.T) {
	s, _ := value.Text(sample)
	u, _ := value.TypeText(sampleType)
	for i := range s {
		if _, e := value.Parse(s[:i]); e != api.ErrForm {
			t.Errorf("%q: %d", s[:i], e)
		}
		for c := range 256 {
			x := s[:i] + string([]byte{byte(c)}) + s[i+1:]
			v, e := value.Parse(x)
			if w, _ := value.Text(v); e != api.ErrForm && (e != api.OK || w != x) {
				t.Errorf("%q: %v, %d", x, v, e)
			}
		}
	}
	for i := range u {
		if _, e := value.TypeParse(u[:i]); e != api.ErrForm {
			t.Errorf("%q: %d", u[:i], e)
		}
		for c := range 256 {
			x := u[:i] + string([]byte{byte(c)}) + u[i+1:]
			v, e := value.TypeParse(x)
			if w, _ := value.TypeText(v); e != api.ErrForm && (e != api.OK || w != x) {
				t.Errorf("%q: %v, %d", x, v, e)
			}
		}
	}
}
