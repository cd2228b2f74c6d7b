package edit_test

import (
	"math/rand"
	"testing"

	"deltaworks/api"
	"deltaworks/edit"
)

// TestDiff: P3.2, the examples of the document, and what the rule of the least edit says of others.
func TestDiff(t *testing.T) {
	for _, x := range []struct{ a, b, e string }{
		{"abcd", "acxd", "=1 -b =1 +x =1"}, {"ab", "ba", "-a =1 +a"}, {"", "ab", "+ab"}, {"ab", "ab", "=2"}, {"kitten", "sitting", "-k +s =3 -e +i =1 +g"},
		{"", "", ""}, {"ab", "", "-ab"}, {"a", "b", "-a +b"}, {"abc", "xyz", "-abc +xyz"}, {"xay", "zaw", "-x +z =1 -y +w"},
		{"ba", "ab", "-b =1 +b"}, {"aab", "ab", "=1 -a =1"}, {"ab", "aab", "=1 +a =1"}, {"abc", "bca", "-a =2 +a"}, {"bca", "abc", "+a =2 -a"}, {"abc", "cab", "+c =2 -c"},
		{"ab", "cab", "+c =2"}, {"cab", "ab", "-c =2"}, {"abcab", "ab", "=2 -cab"}, {"acbab", "ab", "=1 -c =1 -ab"}, {"abab", "baba", "-a =3 +a"}, {"abc", "a", "=1 -bc"}, {"c", "abc", "+ab =1"},
	} {
		e, err := edit.Diff(words(x.a), words(x.b))
		if err != api.OK || !same(e, ed(x.e)) {
			t.Errorf("%s, %s: %s, %d", x.a, x.b, told(e), err)
		}
	}
}

// TestDiffOfAnyValues: P3.2: values of all kinds are the same only if all of them is.
func TestDiffOfAnyValues(t *testing.T) {
	all := someValues()
	for i, v := range all {
		for k, w := range all {
			want := pieces(drop(v), put(w))
			if i == k {
				want = pieces(keep(1))
			}
			e, err := edit.Diff(list(v), list(w))
			isEdit(t, e, err, want)
		}
	}
	e, err := edit.Diff(all, all[1:])
	isEdit(t, e, err, pieces(drop(all[0]), keep(len(all)-1)))
	e, err = edit.Diff(all[1:], all)
	isEdit(t, e, err, pieces(put(all[0]), keep(len(all)-1)))
}

// parts returns all lists that can be left of a list when values are taken out of it.
func parts(l []api.Value) [][]api.Value {
	if len(l) == 0 {
		return [][]api.Value{nil}
	}
	rest := parts(l[1:])
	all := rest
	for _, p := range rest {
		all = append(all, append(list(l[0]), p...))
	}
	return all
}

// costOf returns the least cost of an edit of two lists, found by trying what can be kept.
func costOf(a, b []api.Value) int {
	most := 0
	for _, p := range parts(a) {
		for _, q := range parts(b) {
			if len(p) > most && sameList(p, q) {
				most = len(p)
			}
		}
	}
	return len(a) + len(b) - 2*most
}

// leastOf returns the least edit as the document says it, step by step.
func leastOf(a, b []api.Value) model {
	m := model{from: a, to: b}
	i := 0
	for len(m.at) < len(b) {
		k := len(m.at)
		switch {
		case i < len(a) && sameValue(a[i], b[k]):
			m.at = append(m.at, i)
			i++
		case i < len(a) && 1+costOf(a[i+1:], b[k:]) == costOf(a[i:], b[k:]):
			i++
		default:
			m.at = append(m.at, -1)
		}
	}
	return m
}

// TestDiffIsTheLeast: P3.2 and P3.9, of all lists of at most four of two values, and of some others.
func TestDiffIsTheLeast(t *testing.T) {
	var lists [][]api.Value
	for n := range 5 {
		for bits := range 1 << n {
			var l []api.Value
			for i := range n {
				l = append(l, num(bits>>i&1))
			}
			lists = append(lists, l)
		}
	}
	for _, a := range lists {
		for _, b := range lists {
			e, err := edit.Diff(a, b)
			isEdit(t, e, err, leastOf(a, b).edit())
		}
	}
	r := rand.New(rand.NewSource(3))
	for range 150 {
		some := list(anyValue(r), anyValue(r), anyValue(r))
		var a, b []api.Value
		for range 2 + r.Intn(4) {
			a, b = append(a, some[r.Intn(3)]), append(b, some[r.Intn(3)])
		}
		b = b[:r.Intn(len(b)+1)]
		e, err := edit.Diff(a, b)
		isEdit(t, e, err, leastOf(a, b).edit())
		e, err = edit.Diff(b, a)
		isEdit(t, e, err, leastOf(b, a).edit())
	}
}

// TestDiffLeadsThere: P3.9: the least edit leads there, and no other one that does costs less.
func TestDiffLeadsThere(t *testing.T) {
	anyTimes(4, func(r *rand.Rand) {
		m := anyModel(r, anyList(r, 12))
		e := must(edit.Diff(m.from, m.to))
		if edit.Check(e) != api.OK || !sameList(must(edit.Apply(e, m.from)), m.to) {
			t.Fatalf("%s, %s: %s", toldList(m.from), toldList(m.to), told(e))
		}
		if must(edit.Cost(e)) > must(edit.Cost(m.edit())) {
			t.Fatalf("%s costs more than %s", told(e), told(m.edit()))
		}
	})
}

// TestDistance: P3.9: the cost is a distance.
func TestDistance(t *testing.T) {
	apart := func(a, b []api.Value) int { return must(edit.Cost(must(edit.Diff(a, b)))) }
	anyTimes(5, func(r *rand.Rand) {
		some := anyList(r, 6)
		a, b, c := anyModel(r, some).to, anyModel(r, some).to, anyModel(r, some).to
		if apart(a, a) != 0 || (apart(a, b) == 0) != sameList(a, b) || apart(a, b) != apart(b, a) {
			t.Fatalf("%s, %s: %d", toldList(a), toldList(b), apart(a, b))
		}
		if apart(a, b)+apart(b, c) < apart(a, c) {
			t.Fatalf("%s, %s, %s", toldList(a), toldList(b), toldList(c))
		}
	})
}

// TestLongDiff: P3.2, of lists of 300 values.
func TestLongDiff(t *testing.T) {
	a, b := many(300), times(300, num('b'))
	e, err := edit.Diff(a, b)
	isEdit(t, e, err, pieces(drop(a...), put(b...)))
	e, err = edit.Diff(a, a)
	isEdit(t, e, err, ed("=300"))
	e, err = edit.Diff(a, nil)
	isEdit(t, e, err, pieces(drop(a...)))
	e, err = edit.Diff(nil, a)
	isEdit(t, e, err, pieces(put(a...)))
	r := rand.New(rand.NewSource(6))
	for i := range a {
		a[i], b[i] = num(r.Intn(100)), num(r.Intn(100))
	}
	e = must(edit.Diff(a, b))
	if !sameList(must(edit.Apply(e, a)), b) || must(edit.Cost(e)) != 600-2*common(a, b) {
		t.Errorf("%s", told(e))
	}
}

// common returns how long the longest list is that is left of both lists, by a table of rows.
func common(a, b []api.Value) int {
	row := make([]int, len(b)+1)
	for _, v := range a {
		corner := 0
		for k, w := range b {
			above := row[k+1]
			if row[k+1] = max(above, row[k]); sameValue(v, w) {
				row[k+1] = corner + 1
			}
			corner = above
		}
	}
	return row[len(b)]
}
