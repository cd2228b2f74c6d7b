package value_test

import (
	"slices"
	"strings"
	"testing"

	"deltaworks/api"
	"deltaworks/value"
)

// TestType: P1.1, of types.
func TestType(t *testing.T) {
	wide := kind(api.TypeTuple, times(8, integer)...)
	four := kind(api.TypeTuple, wide, wide, wide, wide) // 37 types
	for i, x := range []struct {
		t api.Type
		e api.Errno
	}{
		{integer, api.OK},
		{letters, api.OK},
		{none, api.OK},
		{sampleType, api.OK},
		{api.Type{Kind: api.TypeInt, L: []api.Type{}}, api.OK},
		{wide, api.OK},
		{kind(api.TypeTuple, times(9, integer)...), api.ErrArg},
		{kind(api.TypeSum, integer), api.OK},
		{kind(api.TypeSum, times(8, letters)...), api.OK},
		{kind(api.TypeSum, times(9, letters)...), api.ErrArg},
		{kind(api.TypeSum), api.ErrArg},
		{kind(api.TypeInt, none), api.ErrArg},
		{kind(api.TypeText, integer), api.ErrArg},
		{kind(-1), api.ErrArg},
		{kind(4), api.ErrArg},
		{kind(api.TypeTuple, integer, kind(4)), api.ErrArg},
		{kind(api.TypeSum, integer, kind(api.TypeSum)), api.ErrArg},
		{kind(api.TypeTuple, kind(api.TypeText, integer)), api.ErrArg},
		{typeTower(6), api.OK},
		{typeTower(7), api.ErrArg},
		{kind(api.TypeTuple, integer, typeTower(6)), api.ErrArg},
		{kind(api.TypeTuple, append(slices.Clone(four.L), integer, integer, integer)...), api.OK},
		{kind(api.TypeTuple, append(slices.Clone(four.L), integer, integer, integer, integer)...), api.ErrArg},
		{typeLoop(1), api.ErrArg},
		{typeLoop(8), api.ErrArg},
	} {
		if e := value.Type(x.t); e != x.e {
			t.Errorf("%d: %d", i, e)
		}
	}
}

// valid lists values with how many are in them, invalid ones that are none.
func valid() ([]api.Value, []int) {
	wide := tuple(times(8, num(0))...)
	return []api.Value{
		num(0), num(api.WordLow), num(api.WordHigh), {L: []api.Value{}},
		text(""), text(" ~"), text("\"\\"), text(strings.Repeat("~", 100)),
		tuple(), {Kind: api.ValueTuple, L: []api.Value{}}, wide, sample,
		tag(0, num(1)), tag(7, tuple()), tag(1, tag(2, text("a"))), tower(6), tag(0, tower(5)),
		tuple(wide, wide, wide, wide, wide, wide, tuple(num(1), num(2), num(3)), num(4)),
	}, []int{
		1, 1, 1, 1,
		1, 1, 1, 1,
		1, 1, 9, 6,
		2, 2, 3, 6, 6,
		60,
	}
}

func invalid() []api.Value {
	one := []api.Value{num(0)}
	wide := tuple(times(8, num(0))...)
	return []api.Value{
		num(api.WordLow - 1), num(api.WordHigh + 1), num(1 << 40), {S: "a"}, {L: one},
		text("\x1f"), text("\x7f"), text("a\n"), text("\x80"), text("\xff"), text("\x00"), text(strings.Repeat("~", 101)),
		{Kind: api.ValueText, N: 1}, {Kind: api.ValueText, L: one},
		{Kind: api.ValueTuple, N: 1}, {Kind: api.ValueTuple, S: "a"}, tuple(times(9, num(0))...),
		tag(-1, num(0)), tag(8, num(0)), {Kind: api.ValueTag}, {Kind: api.ValueTag, L: []api.Value{num(0), num(0)}}, {Kind: api.ValueTag, S: "a", L: one},
		{Kind: -1}, {Kind: 4}, {Kind: 4, L: one},
		tuple(num(0), text("\n")), tag(0, num(1<<40)), tuple(tuple(tag(9, num(0)))), tuple(api.Value{Kind: 4}, num(0)),
		tower(7), tag(0, tower(6)), tuple(num(0), tower(6)),
		tuple(wide, wide, wide, wide, wide, wide, tuple(times(4, num(1))...), num(4)), tuple(times(8, wide)...),
		loop(1), loop(8),
	}
}

// TestCheck: P1.1, of values, and P1.2, of Size.
func TestCheck(t *testing.T) {
	l, sizes := valid()
	for i, v := range l {
		if n, e := value.Size(v); n != sizes[i] || e != api.OK || value.Check(v) != api.OK {
			t.Errorf("valid %d: %d, %d, %d", i, n, e, value.Check(v))
		}
	}
	for i, v := range invalid() {
		if n, e := value.Size(v); n != 0 || e != api.ErrArg || value.Check(v) != api.ErrArg {
			t.Errorf("invalid %d: %d, %d, %d", i, n, e, value.Check(v))
		}
	}
}

// TestBytes: P1.1, of each byte in a text.
func TestBytes(t *testing.T) {
	for c := range 256 {
		want := api.ErrArg
		if c >= 32 && c <= 126 {
			want = api.OK
		}
		if e := value.Check(text(string([]byte{'a', byte(c)}))); e != want {
			t.Errorf("byte %d: %d", c, e)
		}
	}
}

// TestIs: P1.2, of Is.
func TestIs(t *testing.T) {
	sum := sampleType.L[3]
	for i, x := range []struct {
		v  api.Value
		t  api.Type
		is bool
	}{
		{sample, sampleType, true},
		{sample, integer, false},
		{num(1), integer, true},
		{num(1), letters, false},
		{num(1), none, false},
		{num(1), sum, false},
		{text("1"), letters, true},
		{text("1"), integer, false},
		{text(""), none, false},
		{tuple(), none, true},
		{tuple(), integer, false},
		{tuple(), kind(api.TypeTuple, integer), false},
		{tuple(num(1)), none, false},
		{tuple(num(1), text("")), kind(api.TypeTuple, integer, letters), true},
		{tuple(num(1), text("")), kind(api.TypeTuple, letters, integer), false},
		{tuple(num(1), num(2)), kind(api.TypeTuple, integer, letters), false},
		{tuple(num(1), num(2)), kind(api.TypeSum, integer, integer), false},
		{tag(0, text("")), sum, true},
		{tag(1, tuple()), sum, true},
		{tag(1, num(1)), sum, false},
		{tag(2, num(1)), sum, true},
		{tag(3, num(1)), sum, false},
		{tag(0, num(1)), integer, false},
		{tag(0, num(1)), kind(api.TypeTuple, integer), false},
		{tag(0, num(1)), kind(api.TypeSum), false},
		{num(1 << 40), integer, false},
		{text("\n"), letters, false},
		{num(1), kind(api.TypeInt, none), false},
		{num(1), kind(-1), false},
		{api.Value{Kind: 4}, kind(4), false},
		{tower(6), typeTower(6), true},
		{tower(7), typeTower(7), false},
		{tag(0, num(1)), kind(api.TypeSum, integer, kind(4)), false},
		{loop(1), typeLoop(1), false},
	} {
		if value.Is(x.v, x.t) != x.is {
			t.Errorf("%d: not %t", i, x.is)
		}
	}
}
