package edit_test

import (
	"math"
	"math/rand"
	"testing"

	"deltaworks/api"
	"deltaworks/edit"
)

// invalid returns edits that are not valid.
func invalid() [][]api.EditPiece {
	odd := func(kind, n int, l ...api.Value) []api.EditPiece {
		return pieces(api.EditPiece{Kind: kind, N: n, L: l})
	}
	l := [][]api.EditPiece{
		ed("=0"), ed("=-1"), ed("=1 -a =0"), ed("=1 -a =-9223372036854775808"),
		ed("-"), ed("+"), ed("=1 - =1"), ed("=1 + =1"), ed("- +a"), ed("-a +"),
		ed("=1 =1"), ed("-a -b"), ed("+a +b"), ed("-a =1 =1"), ed("=1 +a +b"), ed("=1 -a -a =1"),
		ed("+a -b"), ed("=1 +a -b"), ed("-a +b -c"), ed("-a +b -c =1"), ed("=1 +a -b +c"),
		odd(api.EditKeep, 1, num(1)), odd(api.EditKeep, 0, num(1)),
		odd(api.EditDrop, 1, num(1)), odd(api.EditDrop, -1, num(1)), odd(api.EditDrop, 1), odd(api.EditDrop, 0),
		odd(api.EditPut, 1, num(1)), odd(api.EditPut, -1, num(1)), odd(api.EditPut, 1), odd(api.EditPut, 0),
		odd(3, 1), odd(3, 0, num(1)), odd(-1, 1), odd(-1, 0, num(1)), odd(3, 0), odd(math.MaxInt, 1), odd(math.MinInt, 1),
		append(ed("=1"), odd(3, 1)...), append(ed("-a"), odd(-1, 0, num(1))...),
	}
	for _, v := range invalidValues() {
		l = append(l, pieces(drop(v)), pieces(put(v)), pieces(drop(num(1), v)), pieces(put(v, num(1))), pieces(keep(1), drop(num(1)), put(num(1), num(2), v)), pieces(put(num(1)), keep(1), drop(v), put(num(1))))
	}
	return l
}

// long returns edits that are valid, and of lists, or make lists, that are too long.
func long() [][]api.EditPiece {
	return [][]api.EditPiece{
		ed("=301"), ed("=300 -a"), ed("=300 +a"), ed("-a =300"), ed("+a =300"), ed("=299 -ab"), ed("=299 +ab"), ed("=150 -a =150"), ed("=150 +a =150"),
		pieces(drop(many(301)...)), pieces(put(many(301)...)), pieces(drop(many(301)...), put(many(301)...)), pieces(drop(many(301)...), put(many(1)...)), pieces(drop(many(1)...), put(many(301)...)), pieces(drop(many(150)...), keep(151)), pieces(put(many(150)...), keep(151)),
		ed("=4611686018427387904 -a =4611686018427387904"), ed("=4611686018427387904 +a =4611686018427387904 -b +c"), ed("=9223372036854775807"), ed("=9223372036854775807 -a =9223372036854775807 -a =2"), ed("=9223372036854775807 +a =1"), ed("=9223372036854775807 -a +b =1"), pieces(put(many(70000)...)),
	}
}

// valid returns edits that are valid, some of them of, or making, the longest lists.
func valid() [][]api.EditPiece {
	l := [][]api.EditPiece{
		nil, {}, ed("=1"), ed("-a"), ed("+a"), ed("-a +b"), ed("+a =1"), ed("=1 +a"), ed("-a =1 -b"), ed("+a =1 +b"), ed("+a =1 -b"), ed("=1 -b +xy =1"), ed("-a +x =2 -b =1 +y =1 -c +z"),
		ed("=300"), ed("=299 -a"), ed("=299 +a"), ed("=299 -a +b"), ed("-a =298 -b +c"), ed("+ab =298 -cd"), pieces(drop(many(300)...), put(many(300)...)), pieces(drop(many(300)...)), pieces(put(many(300)...)), pieces(drop(many(100)...), put(many(100)...), keep(100), drop(many(100)...), put(many(100)...)),
		pieces(drop(someValues()...)), pieces(put(someValues()...)), pieces(keep(1), drop(someValues()...), put(someValues()...), keep(1)),
		{{Kind: api.EditKeep, N: 1, L: []api.Value{}}},
	}
	return l
}

// TestCheck: P3.1, of Check.
func TestCheck(t *testing.T) {
	for i, e := range valid() {
		if err := edit.Check(e); err != api.OK {
			t.Errorf("valid %d: %d", i, err)
		}
	}
	for i, e := range invalid() {
		if err := edit.Check(e); err != api.ErrArg {
			t.Errorf("invalid %d: %d", i, err)
		}
	}
	for i, e := range long() {
		if err := edit.Check(e); err != api.ErrLong {
			t.Errorf("long %d: %d", i, err)
		}
	}
}

// behind returns the pieces of e and then those of f, with others between them, so that two that must not stand together do not.
func behind(e, f []api.EditPiece) []api.EditPiece {
	all := append([]api.EditPiece{}, e...)
	if all[len(all)-1].Kind == api.EditKeep {
		all = append(all, put(num(1)))
	}
	if f[0].Kind != api.EditKeep {
		return append(append(all, keep(1)), f...)
	}
	if all[len(all)-1].Kind != api.EditPut {
		all = append(all, keep(1), put(num(1)))
	}
	return append(all, f...)
}

// TestNotValidBeforeLong: P3.1: what is both is not valid, wherever that is seen.
func TestNotValidBeforeLong(t *testing.T) {
	for k, far := range [][]api.EditPiece{ed("=301"), ed("=300 -a"), ed("=150 +a =150"), pieces(put(many(301)...)), pieces(drop(many(700)...)), ed("=9223372036854775807 -a =9223372036854775807 -a =2")} {
		for i, e := range valid()[2:] {
			if err := edit.Check(behind(far, e)); err != api.ErrLong {
				t.Errorf("valid %d, %d: %d", i, k, err)
			}
		}
		for i, bad := range invalid() {
			if err := edit.Check(behind(far, bad)); err != api.ErrArg {
				t.Errorf("%d, %d: %d", i, k, err)
			}
			if err := edit.Check(behind(bad, far)); err != api.ErrArg {
				t.Errorf("%d, %d: %d", i, k, err)
			}
		}
	}
}

// TestCheckOfAnyPieces: P3.1: of any pieces, those are valid that are as the definition says.
func TestCheckOfAnyPieces(t *testing.T) {
	anyTimes(1, func(r *rand.Rand) {
		var e []api.EditPiece
		right := true
		for i := range r.Intn(5) {
			e = append(e, []api.EditPiece{keep(1), drop(num(1)), put(num(1))}[r.Intn(3)])
			if i > 0 && (e[i].Kind == e[i-1].Kind || e[i].Kind == api.EditDrop && e[i-1].Kind == api.EditPut) {
				right = false
			}
		}
		if err := edit.Check(e); (err == api.OK) != right || !right && err != api.ErrArg {
			t.Fatalf("%s: %d", told(e), err)
		}
	})
}

// TestCost: P3.1, of Cost.
func TestCost(t *testing.T) {
	for _, x := range []struct {
		e    []api.EditPiece
		cost int
	}{
		{ed("-k +s =3 -e +i =1 +g"), 5}, {nil, 0}, {ed("=300"), 0}, {ed("-abc"), 3}, {ed("+ab"), 2}, {ed("-abc +de"), 5}, {ed("=7 -a =9 +b =2"), 2},
		{pieces(drop(many(300)...), put(many(300)...)), 600}, {pieces(keep(1), put(text("abc"), tuple(num(1), num(2)))), 2},
	} {
		if n, err := edit.Cost(x.e); n != x.cost || err != api.OK {
			t.Errorf("%s: %d, %d", told(x.e), n, err)
		}
	}
	anyTimes(2, func(r *rand.Rand) {
		m := anyModel(r, anyList(r, 8))
		want := len(m.from)
		for _, i := range m.at {
			if i < 0 {
				want++
			} else {
				want--
			}
		}
		if n := must(edit.Cost(m.edit())); n != want {
			t.Fatalf("%s: %d", told(m.edit()), n)
		}
	})
}

// TestChars: P3.7, of Chars.
func TestChars(t *testing.T) {
	for _, s := range []string{"", "a", "a ~", " !\"'09AZ[\\]az{|}~", string(make300('x'))} {
		l, e := edit.Chars(s)
		if !sameList(l, words(s)) || e != api.OK {
			t.Errorf("%q: %v, %d", s, l, e)
		}
		back, e := edit.OfChars(l)
		if back != s || e != api.OK {
			t.Errorf("%q: %q, %d", s, back, e)
		}
	}
	for c := range 256 {
		s := "a" + string([]byte{byte(c)}) + "b"
		want := api.OK
		if c < 32 || c > 126 {
			want = api.ErrArg
		}
		if l, e := edit.Chars(s); e != want || e == api.OK && !sameList(l, words(s)) || e != api.OK && len(l) > 0 {
			t.Errorf("%d: %v, %d", c, l, e)
		}
	}
	for i, x := range []struct {
		s string
		e api.Errno
	}{
		{"\n", api.ErrArg}, {"a\n", api.ErrArg}, {"\x7f", api.ErrArg}, {"ä", api.ErrArg}, {string(make300('x')) + "x", api.ErrLong}, {string(make300('\n')), api.ErrArg}, {string(make300('\n')) + "\n", api.ErrLong}, {"\n" + string(make300('x')), api.ErrLong},
	} {
		if l, e := edit.Chars(x.s); len(l) > 0 || e != x.e {
			t.Errorf("%d: %v, %d", i, l, e)
		}
	}
}

func make300(c byte) []byte { return times(300, c) }

// TestOfChars: P3.7, of OfChars.
func TestOfChars(t *testing.T) {
	for n := -3; n < 300; n++ {
		l := list(num('a'), num(n), num('b'))
		want, s := api.ErrArg, ""
		if n >= 32 && n <= 126 {
			want, s = api.OK, "a"+string([]byte{byte(n)})+"b"
		}
		if got, e := edit.OfChars(l); got != s || e != want {
			t.Errorf("%d: %q, %d", n, got, e)
		}
	}
	odd := list(num(256+'a'), num(api.WordHigh), num(api.WordLow), text("a"), text(""), tuple(), tuple(num('a')), tag(0, num('a')), tag(7, num(1)), api.Value{Kind: api.ValueInt, N: 'a', S: "a"}, api.Value{N: 'a', L: list(num(1))}, api.Value{Kind: api.ValueTuple, N: 'a'}, api.Value{Kind: 9, N: 'a'})
	for i, v := range append(odd, invalidValues()...) {
		for k, l := range [][]api.Value{{v}, {num('a'), v}, {v, num('a')}} {
			if s, e := edit.OfChars(l); s != "" || e != api.ErrArg {
				t.Errorf("%d, %d: %q, %d", i, k, s, e)
			}
		}
		if s, e := edit.OfChars(append(many(300), v)); s != "" || e != api.ErrLong {
			t.Errorf("%d: %q, %d", i, s, e)
		}
	}
	if s, e := edit.OfChars(many(300)); len(s) != 300 || e != api.OK {
		t.Errorf("%q, %d", s, e)
	}
	if s, e := edit.OfChars(nil); s != "" || e != api.OK {
		t.Errorf("%q, %d", s, e)
	}
}
