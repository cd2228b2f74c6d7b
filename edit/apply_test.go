package edit_test

import (
	"math/rand"
	"testing"

	"deltaworks/api"
	"deltaworks/edit"
)

// TestApply: P3.3.
func TestApply(t *testing.T) {
	for _, x := range []struct {
		e, a, b string
		err     api.Errno
	}{
		{"=1 -b", "ab", "a", api.OK}, {"=1 -b", "abc", "", api.ErrState}, {"=1 -b", "ac", "", api.ErrState}, {"=1 -b", "a", "", api.ErrState}, {"=1 -b", "", "", api.ErrState},
		{"", "", "", api.OK}, {"", "a", "", api.ErrState}, {"+xy", "", "xy", api.OK}, {"+xy", "a", "", api.ErrState}, {"-ab", "ab", "", api.OK}, {"-ab", "ba", "", api.ErrState}, {"-ab", "a", "", api.ErrState}, {"-ab", "abc", "", api.ErrState},
		{"-a +x =2 +y", "abc", "xbcy", api.OK}, {"=3", "abc", "abc", api.OK}, {"=3", "ab", "", api.ErrState}, {"=3", "abcd", "", api.ErrState}, {"+x =1 +y =1 -c +z", "abc", "xaybz", api.OK}, {"+x =1 +y =1 -c +z", "abb", "", api.ErrState},
		{"=1 -b =1 -d", "abcd", "ac", api.OK}, {"=1 -b =1 -d", "abce", "", api.ErrState}, {"=1 -b =1 -d", "aecd", "", api.ErrState},
	} {
		l, err := edit.Apply(ed(x.e), words(x.a))
		if !sameList(l, words(x.b)) || err != x.err {
			t.Errorf("%s, %s: %s, %d", x.e, x.a, toldList(l), err)
		}
	}
	all := someValues()
	for i, v := range all {
		for k, w := range all {
			l, err := edit.Apply(pieces(put(w), keep(1), drop(v)), list(v, w))
			if i != k && (len(l) > 0 || err != api.ErrState) || i == k && (err != api.OK || !sameList(l, list(v, v))) {
				t.Errorf("%d, %d: %s, %d", i, k, toldList(l), err)
			}
		}
	}
	l, err := edit.Apply(pieces(put(many(150)...), keep(1), drop(many(299)...), put(many(149)...)), many(300))
	if !sameList(l, many(300)) || err != api.OK {
		t.Errorf("300: %d, %d", len(l), err)
	}
}

// TestApplyAny: P3.3, of any edit and any list.
func TestApplyAny(t *testing.T) {
	anyTimes(7, func(r *rand.Rand) {
		m := anyModel(r, anyList(r, 8))
		e := m.edit()
		if l, err := edit.Apply(e, m.from); !sameList(l, m.to) || err != api.OK {
			t.Fatalf("%s, %s: %s, %d", told(e), toldList(m.from), toldList(l), err)
		}
		other := anyModel(r, m.from).to
		n, ok := modelOf(e, other)
		l, err := edit.Apply(e, other)
		if ok && (err != api.OK || !sameList(l, n.to)) || !ok && (err != api.ErrState || len(l) > 0) {
			t.Fatalf("%s, %s: %s, %d", told(e), toldList(other), toldList(l), err)
		}
	})
}

// TestInvert: P3.4.
func TestInvert(t *testing.T) {
	for _, x := range []struct{ e, back string }{
		{"-k +s =3 -e +i =1 +g", "-s +k =3 -i +e =1 -g"}, {"", ""}, {"=5", "=5"}, {"-ab", "+ab"}, {"+ab", "-ab"}, {"-ab +c", "-c +ab"}, {"=1 -b =1", "=1 +b =1"}, {"=300", "=300"},
	} {
		e, err := edit.Invert(ed(x.e))
		isEdit(t, e, err, ed(x.back))
	}
	anyTimes(8, func(r *rand.Rand) {
		m := anyModel(r, anyList(r, 8))
		back := model{from: m.to, to: m.from, at: times(len(m.from), -1)}
		for k, i := range m.at {
			if i >= 0 {
				back.at[i] = k
			}
		}
		e, err := edit.Invert(m.edit())
		isEdit(t, e, err, back.edit())
		isEdit(t, must(edit.Invert(e)), api.OK, m.edit())
	})
}
