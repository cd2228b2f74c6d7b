package query_test

import (
	"slices"
	"testing"

	"deltaworks/api"
	"deltaworks/query"
)

// badInputs returns lists that are not as the inputs of the program P must be.
func badInputs() [][]api.Zset {
	good := each([]int{1, 2}, []int{2, 3})
	loop := []api.Value{words(1, 2)}
	loop[0].L = loop
	l := [][]api.Zset{nil, {good}, {good, good, nil}}
	for _, bad := range []api.Zset{
		{good[1], good[0]}, {good[0], good[0]}, two([3]int{1, 2, 0}), two([3]int{1, 1 << 31, 1}), each([]int{1}), each([]int{1, 2, 3}), zset(row(num(1), 1)), zset(row(tup(num(1), str("a")), 1)), append(each([]int{1, 2}), row(str("a"), 1)), many(0, 20001), zset(row(loop[0], 1)),
	} {
		l = append(l, ins(bad, nil), ins(good, bad))
	}
	return l
}

// TestBadInputs: ErrRange, unless there are as many collections as inputs, each a valid one of rows of the type, of at most 20000 rows.
func TestBadInputs(t *testing.T) {
	p := sample()
	good := ins(each([]int{1, 2}), nil)
	for _, bad := range badInputs() {
		rels, e := query.Eval(p, bad)
		areRels(t, rels, e, nil, api.ErrRange)
		outs, e := query.Answers(p, bad)
		areRels(t, outs, e, nil, api.ErrRange)
		sums, e := query.Apply(p, bad, good)
		areRels(t, sums, e, nil, api.ErrRange)
		sums, e = query.Apply(p, good, bad)
		areRels(t, sums, e, nil, api.ErrRange)
		for _, changes := range [][][]api.Zset{{bad}, {good, bad}, {good, bad, good}, {bad, good}} {
			areVersions(t, p, changes, nil, api.ErrRange)
		}
	}
}

func areVersions(t *testing.T, p api.Prog, changes [][]api.Zset, want [][]api.Zset, e api.Errno) {
	t.Helper()
	got, err := query.Versions(p, changes)
	if err != e || !slices.EqualFunc(got, want, sameAll) {
		t.Errorf("%v, %d, not %v, %d", got, err, want, e)
	}
}

// TestApply: P6.4: a change is added to inputs, one by one.
func TestApply(t *testing.T) {
	p := sample()
	a, b := two([3]int{1, 2, 1}, [3]int{2, 3, -2}), two([3]int{5, 5, high})
	for _, x := range []struct{ old, change, want []api.Zset }{
		{ins(nil, nil), ins(nil, nil), ins(nil, nil)},
		{ins(a, b), ins(nil, nil), ins(a, b)},
		{ins(nil, nil), ins(a, b), ins(a, b)},
		{ins(a, nil), ins(a, b), ins(two([3]int{1, 2, 2}, [3]int{2, 3, -4}), b)},
		{ins(a, b), ins(two([3]int{0, 0, 4}, [3]int{1, 2, -1}), b), ins(two([3]int{0, 0, 4}, [3]int{2, 3, -2}), two([3]int{5, 5, -2}))},
		{ins(many(0, 20000), nil), ins(many(5, 100), many(5, 100)), nil},
		{ins(many(0, 20000), nil), ins(two([3]int{0, 0, -1}, [3]int{20000, 0, 1}), nil), ins(many(1, 20000), nil)},
	} {
		if x.want == nil {
			x.want = ins(slices.Clone(x.old[0]), x.change[1])
			for i := range 100 {
				x.want[0][5+i].N = 2
			}
		}
		got, e := query.Apply(p, x.old, x.change)
		areRels(t, got, e, x.want, api.OK)
	}
}

// TestVersions: P6.5: the inputs behind each of some changes, from empty ones on.
func TestVersions(t *testing.T) {
	p := sample()
	a, b := two([3]int{1, 2, 1}, [3]int{2, 3, -2}), two([3]int{5, 5, 1})
	areVersions(t, p, nil, nil, api.OK)
	areVersions(t, p, [][]api.Zset{{nil, nil}}, [][]api.Zset{{nil, nil}}, api.OK)
	areVersions(t, p, [][]api.Zset{{a, nil}, {nil, nil}, {two([3]int{1, 2, -1}), b}, {nil, two([3]int{5, 5, -1}, [3]int{6, 6, 1})}},
		[][]api.Zset{{a, nil}, {a, nil}, {two([3]int{2, 3, -2}), b}, {two([3]int{2, 3, -2}), two([3]int{6, 6, 1})}}, api.OK)
	anyTimes(3, 300, func(m *maker) {
		p := m.valid(0)
		var changes, want [][]api.Zset
		now := make([]api.Zset, len(p.Inputs))
		for range m.r.Intn(5) {
			changes = append(changes, m.anyIns())
			now = must(query.Apply(p, now, changes[len(changes)-1]))
			want = append(want, now)
		}
		areVersions(t, p, changes, want, api.OK)
	})
}

// TestFullInputs: ErrFull, if an input would have more than 20000 rows.
func TestFullInputs(t *testing.T) {
	p := sample()
	half, rest, more := many(0, 10000), many(10000, 10000), many(10000, 10001)
	for _, x := range []struct {
		old, change []api.Zset
		e           api.Errno
	}{
		{ins(half, nil), ins(rest, nil), api.OK},
		{ins(half, nil), ins(more, nil), api.ErrFull},
		{ins(nil, more), ins(nil, half), api.ErrFull},
		{ins(nil, more), ins(half, more), api.OK},
	} {
		l, e := query.Apply(p, x.old, x.change)
		if e != x.e || e != api.OK && len(l) != 0 {
			t.Errorf("%d, not %d", e, x.e)
		}
		v, e := query.Versions(p, [][]api.Zset{x.old, x.change})
		if e != x.e || e != api.OK && len(v) != 0 {
			t.Errorf("%d, not %d", e, x.e)
		}
	}
	// Of several changes the first one with an error decides; what is not as it must be comes ahead of what is too much.
	bad := ins(each([]int{1}), nil)
	over := ins(more, nil)
	areVersions(t, p, [][]api.Zset{{half, nil}, over, bad}, nil, api.ErrFull)
	areVersions(t, p, [][]api.Zset{{half, nil}, bad, over}, nil, api.ErrRange)
	l, e := query.Apply(p, ins(half, nil), ins(more, each([]int{1})))
	areRels(t, l, e, nil, api.ErrRange)
}
