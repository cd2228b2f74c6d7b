package edit_test

import (
	"math/rand"
	"testing"

	"deltaworks/api"
	"deltaworks/edit"
)

// TestCompose: P3.5.
func TestCompose(t *testing.T) {
	for _, x := range []struct {
		e, f, want string
		err        api.Errno
	}{
		{"=1 -b +xy =1", "-a =1 -y =1", "-ab +x =1", api.OK}, {"+ab", "-ab", "", api.OK}, {"+a", "-b", "", api.ErrState},
		{"", "", "", api.OK}, {"=2", "=2", "=2", api.OK}, {"=2", "=1", "", api.ErrState}, {"=1", "=2", "", api.ErrState}, {"-a", "=1", "", api.ErrState}, {"-a", "+b", "-a +b", api.OK}, {"+a", "", "", api.ErrState}, {"", "-a", "", api.ErrState}, {"", "=1", "", api.ErrState}, {"+a", "=1", "+a", api.OK}, {"+a", "=2", "", api.ErrState},
		{"+ab", "=1 -c", "", api.ErrState}, {"+ab", "-ba", "", api.ErrState}, {"=1 +a", "-xa", "-x", api.OK}, {"=1 +a", "-ab", "", api.ErrState}, {"=1", "-z", "-z", api.OK},
		{"-a =1", "+x =1 +y", "-a +x =1 +y", api.OK}, {"=1 -b =1", "=1 +x =1", "=1 -b +x =1", api.OK}, {"=1 +x =1", "=1 -x +y =1", "=1 +y =1", api.OK}, {"+a =1 +b", "=1 -m =1", "-m +ab", api.OK}, {"-ab +c", "-c +de", "-ab +de", api.OK}, {"-a =1 -c =1", "-b +x =1", "-abc +x =1", api.OK}, {"+abc", "=1 -b =1", "+ac", api.OK}, {"=1 -a =1 +b =1", "-x =1 -by +c", "-xa =1 -y +c", api.OK}, {"=300", "=300", "=300", api.OK},
	} {
		e, err := edit.Compose(ed(x.e), ed(x.f))
		if !same(e, ed(x.want)) || err != x.err {
			t.Errorf("%s, %s: %s, %d", x.e, x.f, told(e), err)
		}
	}
	all := someValues()
	for i, v := range all {
		for k, w := range all {
			e, err := edit.Compose(pieces(keep(1), put(num(5), v)), pieces(keep(2), drop(w)))
			if i == k && (err != api.OK || !same(e, pieces(keep(1), put(num(5))))) || i != k && (err != api.ErrState || len(e) > 0) {
				t.Errorf("%d, %d: %s, %d", i, k, told(e), err)
			}
		}
	}
	most := pieces(drop(many(300)...), put(many(300)...))
	e, err := edit.Compose(most, most)
	isEdit(t, e, err, most)
}

// behind returns f, an edit of what e makes, behind it.
func (e model) behind(f model) model {
	m := model{from: e.from, to: f.to}
	for _, i := range f.at {
		if i >= 0 {
			i = e.at[i]
		}
		m.at = append(m.at, i)
	}
	return m
}

// TestComposeAny: P3.5 and P3.10: what a composition makes is what the one edit makes of what the other one makes; how edits are put together makes no difference; a composition turned back is both, turned back.
func TestComposeAny(t *testing.T) {
	anyTimes(9, func(r *rand.Rand) {
		a := anyModel(r, anyList(r, 7))
		b := anyModel(r, a.to)
		c := anyModel(r, b.to)
		e, f, g := a.edit(), b.edit(), c.edit()
		ef, err := edit.Compose(e, f)
		isEdit(t, ef, err, a.behind(b).edit())
		if l := must(edit.Apply(ef, a.from)); !sameList(l, must(edit.Apply(f, must(edit.Apply(e, a.from))))) {
			t.Fatalf("%s, %s: %s", told(e), told(f), toldList(l))
		}
		isEdit(t, must(edit.Compose(ef, g)), api.OK, must(edit.Compose(e, must(edit.Compose(f, g)))))
		back, err := edit.Compose(must(edit.Invert(f)), must(edit.Invert(e)))
		isEdit(t, back, err, must(edit.Invert(ef)))
		if l := must(edit.Apply(back, c.from)); !sameList(l, a.from) {
			t.Fatalf("%s of %s: %s", told(back), toldList(c.from), toldList(l))
		}
		isEdit(t, must(edit.Compose(e, still(a.to))), api.OK, e)
		isEdit(t, must(edit.Compose(still(a.from), e)), api.OK, e)
		same, err := edit.Compose(e, must(edit.Invert(e)))
		if err != api.OK || !sameList(must(edit.Apply(same, a.from)), a.from) {
			t.Fatalf("%s: %s", told(e), told(same))
		}
	})
}

// still returns the edit that keeps all values of a list.
func still(l []api.Value) []api.EditPiece {
	if len(l) == 0 {
		return nil
	}
	return pieces(keep(len(l)))
}

// TestComposeOfOthers: P3.5: which edits do not fit behind each other.
func TestComposeOfOthers(t *testing.T) {
	anyTimes(10, func(r *rand.Rand) {
		a := anyModel(r, anyList(r, 3))
		f := anyModel(r, anyModel(r, a.to).to).edit()
		fits := true
		other := 0
		for _, p := range f {
			for range p.N {
				other++
			}
			for _, v := range p.L {
				if p.Kind == api.EditDrop {
					fits = fits && other < len(a.to) && (a.at[other] >= 0 || sameValue(v, a.to[other]))
					other++
				}
			}
		}
		fits = fits && other == len(a.to)
		e, err := edit.Compose(a.edit(), f)
		if fits != (err == api.OK) || !fits && (err != api.ErrState || len(e) > 0) {
			t.Fatalf("%s, %s: %s, %d", told(a.edit()), told(f), told(e), err)
		}
	})
}

// TestCross: P3.6.
func TestCross(t *testing.T) {
	for _, x := range []struct {
		e, f, second, first string
		err                 api.Errno
	}{
		{"=1 +x =1", "=1 +y -b", "", "", api.ErrArg}, {"=1 +x =1", "=1 -b +y", "=2 -b +y", "=1 +x =1", api.OK},
		{"-a +p =1", "+q =1 +r =1", "=1 +qr =1", "+p =1 -a =2", api.OK}, {"+q =1 +r =1", "-a +p =1", "=1 -a =1 +p =1", "+qr =2", api.OK},
		{"", "", "", "", api.OK}, {"=2", "=2", "=2", "=2", api.OK}, {"=2", "=1", "", "", api.ErrState}, {"=1", "=2", "", "", api.ErrState}, {"+a", "=1", "", "", api.ErrState}, {"=1", "+a", "", "", api.ErrState}, {"", "-a", "", "", api.ErrState},
		{"-a", "-a", "", "", api.OK}, {"-a", "-b", "", "", api.ErrState}, {"=1 -ab", "=1 -ac", "", "", api.ErrState}, {"=1 -ab", "=1 -a =1", "=1", "=1 -b", api.OK}, {"=1 -a =1", "=1 -ab", "=1 -b", "=1", api.OK},
		{"+a", "+b", "=1 +b", "+a =1", api.OK}, {"+b", "+a", "=1 +a", "+b =1", api.OK}, {"+a", "+a", "=1 +a", "+a =1", api.OK}, {"=1", "-a +b", "-a +b", "=1", api.OK}, {"-a +b", "=1", "=1", "-a +b", api.OK}, {"-a +b", "-a +b", "=1 +b", "+b =1", api.OK},
		{"+x =1 +y", "-a", "=1 -a =1", "+xy", api.OK}, {"-a", "+x =1 +y", "+xy", "=1 -a =1", api.OK}, {"+x =1 +y", "+u =1 +v", "=1 +u =2 +v", "+x =2 +y =1", api.OK}, {"+x =1 +y", "-a +z", "=1 -a =1 +z", "+xy =1", api.OK},
		{"+x =2", "-ab +y", "=1 -ab +y", "+x =1", api.OK}, {"=1 -b +x", "-a +y =1", "-a =1 +y", "+x =1 -b", api.OK},
	} {
		second, first, err := edit.Cross(ed(x.e), ed(x.f))
		if !same(second, ed(x.second)) || !same(first, ed(x.first)) || err != x.err {
			t.Errorf("%s, %s: %s, %s, %d", x.e, x.f, told(second), told(first), err)
		}
	}
	all := someValues()
	for i, v := range all {
		for k, w := range all {
			second, first, err := edit.Cross(pieces(drop(num(5), v)), pieces(keep(1), drop(w)))
			if i == k && (err != api.OK || len(second) > 0 || !same(first, pieces(drop(num(5))))) || i != k && (err != api.ErrState || len(second) > 0 || len(first) > 0) {
				t.Errorf("%d, %d: %s, %s, %d", i, k, told(second), told(first), err)
			}
		}
	}
}

// TestLongCross: P3.6: how long the list can be that both edits lead to.
func TestLongCross(t *testing.T) {
	puts := func(n int, c byte) api.EditPiece { return put(times(n, num(int(c)))...) }
	for i, x := range []struct {
		e, f []api.EditPiece
		err  api.Errno
	}{
		{pieces(puts(200, 'a')), pieces(puts(100, 'b')), api.OK},
		{pieces(puts(200, 'a')), pieces(puts(101, 'b')), api.ErrLong},
		{pieces(keep(100), puts(100, 'a')), pieces(keep(100), puts(100, 'b')), api.OK},
		{pieces(keep(100), puts(101, 'a')), pieces(keep(100), puts(100, 'b')), api.ErrLong},
		{pieces(keep(100), puts(100, 'a')), pieces(keep(100), puts(101, 'b')), api.ErrLong},
		{pieces(drop(many(100)...), puts(200, 'a')), pieces(keep(100), puts(100, 'b')), api.OK},
		{pieces(drop(many(100)...), puts(200, 'a')), pieces(keep(100), puts(101, 'b')), api.ErrLong},
		{pieces(drop(many(300)...), puts(150, 'a')), pieces(drop(many(300)...), puts(150, 'b')), api.OK},
		{pieces(drop(many(300)...), puts(300, 'a')), pieces(drop(many(300)...), puts(1, 'b')), api.ErrLong},
		{pieces(keep(300)), pieces(keep(299), drop(num('a')), puts(1, 'b')), api.OK},
		{pieces(drop(many(300)...), puts(300, 'a')), pieces(drop(times(300, num('b'))...), puts(300, 'b')), api.ErrState},
		{pieces(drop(many(300)...), puts(300, 'a')), pieces(drop(many(299)...), drop(num('b')))[:1], api.ErrState},
		{pieces(puts(300, 'a')), pieces(keep(1), puts(299, 'b')), api.ErrState},
	} {
		second, first, err := edit.Cross(x.e, x.f)
		if err != x.err || err != api.OK && (len(second) > 0 || len(first) > 0) {
			t.Errorf("%d: %s, %s, %d", i, told(second), told(first), err)
		}
	}
}

// with returns the edit f behind e, and e behind f: both lead to a list that has all values that both keep, and ahead of each of them, and behind the last one, what e puts, and then what f puts.
func (e model) with(f model) (second, first model) {
	second.from, first.from = e.to, f.to
	inF := map[int]int{}
	for k, i := range f.at {
		inF[i] = k
	}
	i, k := 0, 0
	for n := 0; n <= len(e.from); n++ {
		_, inBoth := inF[n]
		at := len(e.to)
		for h, m := range e.at {
			if m == n {
				at = h
			}
		}
		inBoth = inBoth && at < len(e.to)
		if !inBoth && n < len(e.from) {
			continue
		}
		for ; i < at; i++ {
			if e.at[i] < 0 {
				second.add(e.to[i], i)
				first.add(e.to[i], -1)
			}
		}
		end := len(f.to)
		if inBoth {
			end = inF[n]
		}
		for ; k < end; k++ {
			if f.at[k] < 0 {
				second.add(f.to[k], -1)
				first.add(f.to[k], k)
			}
		}
		if inBoth {
			second.add(e.from[n], i)
			first.add(e.from[n], k)
			i++
			k++
		}
	}
	return second, first
}

// add puts a value at the end of the list that an edit makes.
func (m *model) add(v api.Value, at int) {
	m.to, m.at = append(m.to, v), append(m.at, at)
}

// TestCrossAny: P3.6 and P3.11: both ways lead to the same.
func TestCrossAny(t *testing.T) {
	anyTimes(11, func(r *rand.Rand) {
		from := anyList(r, 7)
		a, b := anyModel(r, from), anyModel(r, from)
		e, f := a.edit(), b.edit()
		wantSecond, wantFirst := a.with(b)
		second, first, err := edit.Cross(e, f)
		isEdit(t, second, err, wantSecond.edit())
		isEdit(t, first, err, wantFirst.edit())
		one, two := must(edit.Compose(e, second)), must(edit.Compose(f, first))
		isEdit(t, one, api.OK, two)
		if l := must(edit.Apply(one, from)); !sameList(l, wantSecond.to) || !sameList(l, wantFirst.to) {
			t.Fatalf("%s, %s: %s", told(e), told(f), toldList(l))
		}
	})
}

// TestCrossOfOthers: P3.6: which edits are not of one list.
func TestCrossOfOthers(t *testing.T) {
	anyTimes(12, func(r *rand.Rand) {
		a := anyModel(r, anyList(r, 3))
		b := anyModel(r, anyModel(r, a.from).to)
		fits := len(a.from) == len(b.from)
		for i, v := range a.from {
			bothDrop := true
			for _, k := range append(append([]int{}, a.at...), b.at...) {
				bothDrop = bothDrop && k != i
			}
			fits = fits && (!bothDrop || sameValue(v, b.from[i]))
		}
		second, first, err := edit.Cross(a.edit(), b.edit())
		if fits != (err == api.OK) || !fits && (err != api.ErrState || len(second) > 0 || len(first) > 0) {
			t.Fatalf("%s, %s: %s, %s, %d", told(a.edit()), told(b.edit()), told(second), told(first), err)
		}
	})
}
