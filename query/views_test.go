package query_test

import (
	"math"
	"testing"

	"deltaworks/api"
	"deltaworks/query"
)

// low and high are the limits of counts.
const (
	low  = math.MinInt
	high = math.MaxInt
)

// viewIs fails unless a view behind two inputs of pairs of words is a collection of pairs, each with its count.
func viewIs(t *testing.T, l []api.Zset, v api.View, want ...[3]int) {
	t.Helper()
	isLast(t, pairs(v), l, two(want...), api.OK)
}

// swap turns the first row, a pair.
func swap() api.Exp { return list(part(1), part(0)) }

// TestMapKeepSum: P6.3: views that take each row by itself, with its count.
func TestMapKeepSum(t *testing.T) {
	l := ins(two([3]int{1, 5, 2}, [3]int{1, 6, -1}, [3]int{2, 5, 1}, [3]int{3, -4, -3}), two([3]int{1, 5, -2}, [3]int{2, 6, high}))
	viewIs(t, l, made(api.ViewMap, []int{0}, swap()), [3]int{-4, 3, -3}, [3]int{5, 1, 2}, [3]int{5, 2, 1}, [3]int{6, 1, -1})
	viewIs(t, l, made(api.ViewMap, []int{0}, list(part(0), whole(0))), [3]int{1, 0, 1}, [3]int{2, 0, 1}, [3]int{3, 0, -3})
	viewIs(t, l, made(api.ViewMap, []int{0}, list(whole(0), bin(api.OpDiv, part(0), whole(3)))), [3]int{0, 0, 2}, [3]int{0, 1, -3})
	viewIs(t, l, made(api.ViewMap, []int{0}, vari(0), vari(0), swap(), vari(0)), [3]int{-4, 3, -3}, [3]int{1, 5, 6}, [3]int{1, 6, -3}, [3]int{2, 5, 3}, [3]int{3, -4, -9}, [3]int{5, 1, 2}, [3]int{5, 2, 1}, [3]int{6, 1, -1})
	viewIs(t, l, made(api.ViewMap, []int{1}, list(whole(1), whole(1)), list(whole(1), whole(1))), [3]int{1, 1, -6})
	viewIs(t, ins(two([3]int{1, 1, low}, [3]int{2, 1, low}), nil), made(api.ViewMap, []int{0}, list(whole(0), whole(0))))
	viewIs(t, l, made(api.ViewKeep, []int{0}, less(whole(0), part(1))), [3]int{1, 5, 2}, [3]int{1, 6, -1}, [3]int{2, 5, 1})
	viewIs(t, l, made(api.ViewKeep, []int{0}, bin(api.OpMin, part(1), whole(0))), [3]int{3, -4, -3})
	viewIs(t, l, made(api.ViewKeep, []int{0}, whole(0)))
	viewIs(t, l, made(api.ViewSum, []int{0, 1}), [3]int{1, 6, -1}, [3]int{2, 5, 1}, [3]int{2, 6, high}, [3]int{3, -4, -3})
	viewIs(t, l, made(api.ViewSum, []int{1, 1, 1, 1, 1, 1}), [3]int{1, 5, -12}, [3]int{2, 6, -6})
	viewIs(t, l, made(api.ViewSum, []int{0}), [3]int{1, 5, 2}, [3]int{1, 6, -1}, [3]int{2, 5, 1}, [3]int{3, -4, -3})
}

// TestNegOnce: P6.3: counts are negated; of a set each row is there once.
func TestNegOnce(t *testing.T) {
	l := ins(two([3]int{1, 5, 2}, [3]int{1, 6, -1}, [3]int{2, 0, low}, [3]int{2, 5, high}), nil)
	viewIs(t, l, made(api.ViewNeg, []int{0}), [3]int{1, 5, -2}, [3]int{1, 6, 1}, [3]int{2, 0, low}, [3]int{2, 5, -high})
	viewIs(t, l, made(api.ViewOnce, []int{0}), [3]int{1, 5, 1}, [3]int{2, 5, 1})
	viewIs(t, l, made(api.ViewNeg, []int{1}))
	viewIs(t, l, made(api.ViewOnce, []int{1}))
}

// TestJoin: P6.3: rows whose keys are the same are put together, and their counts multiplied.
func TestJoin(t *testing.T) {
	l := ins(two([3]int{1, 5, 2}, [3]int{1, 6, -1}, [3]int{2, 5, 1}, [3]int{3, -4, -3}), two([3]int{1, 1, 1}, [3]int{2, 5, 3}, [3]int{2, 6, -1}))
	second := get(1, vari(1))
	viewIs(t, l, made(api.ViewJoin, []int{0, 1}, part(0), part(0), list(part(1), second)), [3]int{5, 1, 2}, [3]int{5, 5, 3}, [3]int{5, 6, -1}, [3]int{6, 1, -1})
	viewIs(t, l, made(api.ViewJoin, []int{1, 0}, part(0), part(0), list(part(1), second)), [3]int{1, 5, 2}, [3]int{1, 6, -1}, [3]int{5, 5, 3}, [3]int{6, 5, -1})
	viewIs(t, l, made(api.ViewJoin, []int{0, 1}, part(1), part(1), vari(0)), [3]int{1, 5, 6}, [3]int{1, 6, 1}, [3]int{2, 5, 3})
	viewIs(t, l, made(api.ViewJoin, []int{0, 1}, vari(0), vari(0), vari(1)), [3]int{2, 5, 3})
	viewIs(t, l, made(api.ViewJoin, []int{0, 1}, whole(0), whole(0), list(whole(0), whole(7))), [3]int{0, 7, -3})
	viewIs(t, l, made(api.ViewJoin, []int{0, 0}, whole(0), whole(0), list(whole(0), whole(7))), [3]int{0, 7, 1})
	viewIs(t, l, made(api.ViewJoin, []int{0, 1}, whole(0), whole(1), vari(0)))
	viewIs(t, ins(two([3]int{1, 1, 1 << 40}), two([3]int{1, 1, 1 << 23}, [3]int{1, 2, 1 << 24}, [3]int{1, 3, -1 << 24})), made(api.ViewJoin, []int{0, 1}, part(0), part(0), vari(1)), [3]int{1, 1, low})
	viewIs(t, ins(nil, l[1]), made(api.ViewJoin, []int{0, 1}, part(0), part(0), vari(0)))
	viewIs(t, ins(l[0], nil), made(api.ViewJoin, []int{0, 1}, part(0), part(0), vari(0)))
	// Keys of any type are the same only if all of them is.
	texts := func(l ...string) (z api.Zset) {
		for _, s := range l {
			z = append(z, row(tup(str(s), tag(1, str(s+"b"))), 1))
		}
		return z
	}
	rows := tuples(letters, either)
	p := program([]api.Type{rows, rows}, made(api.ViewJoin, []int{0, 1}, vari(0), vari(0), part(0)))
	isLast(t, p, ins(texts("", "a", "aa"), texts("a", "ab", "b")), zset(row(str("a"), 1)), api.OK)
}

// TestFolds: P6.3: a group is folded to one row, if it has what it takes.
func TestFolds(t *testing.T) {
	l := ins(two([3]int{1, 5, 2}, [3]int{1, 6, -1}, [3]int{1, 9, 1}, [3]int{2, 5, 1}, [3]int{2, 7, -1}, [3]int{3, -4, -3}), nil)
	viewIs(t, l, fold(api.FoldCount, 0, part(0)), [3]int{1, 2, 1}, [3]int{2, 0, 1}, [3]int{3, -3, 1})
	viewIs(t, l, fold(api.FoldSum, 0, part(0), part(1)), [3]int{1, 13, 1}, [3]int{2, -2, 1}, [3]int{3, 12, 1})
	viewIs(t, l, fold(api.FoldMin, 0, part(0), part(1)), [3]int{1, 5, 1}, [3]int{2, 5, 1})
	viewIs(t, l, fold(api.FoldMax, 0, part(0), part(1)), [3]int{1, 9, 1}, [3]int{2, 5, 1})
	viewIs(t, l, fold(api.FoldCount, 0, whole(4)), [3]int{4, -1, 1})
	viewIs(t, l, fold(api.FoldMax, 0, whole(4), bin(api.OpSub, whole(0), part(1))), [3]int{4, -5, 1})
	for n := range 4 {
		f := exps(part(0), part(1))
		viewIs(t, l, fold(n, 1, f[:min(2, n+1)]...))
	}
	// A row that is missing is none of those that have a least and a greatest word.
	viewIs(t, ins(two([3]int{1, 1, -1}, [3]int{1, 2, 1}, [3]int{1, 3, 1}, [3]int{1, 4, -1}), nil), fold(api.FoldMin, 0, part(0), part(1)), [3]int{1, 2, 1})
	viewIs(t, ins(two([3]int{1, 1, -1}, [3]int{1, 2, 1}, [3]int{1, 3, 1}, [3]int{1, 4, -1}), nil), fold(api.FoldMax, 0, part(0), part(1)), [3]int{1, 3, 1})
	// Words of both signs, and 0.
	viewIs(t, ins(two([3]int{1, -3, 1}, [3]int{1, 0, 1}, [3]int{2, 0, 1}, [3]int{2, 4, 1}), nil), fold(api.FoldMin, 0, part(0), part(1)), [3]int{1, -3, 1}, [3]int{2, 0, 1})
	viewIs(t, ins(two([3]int{1, -3, 1}, [3]int{1, 0, 1}, [3]int{2, -5, 1}, [3]int{2, -4, 1}), nil), fold(api.FoldMax, 0, part(0), part(1)), [3]int{1, 0, 1}, [3]int{2, -4, 1})
}

// TestFoldsWrap: of sums 32 bits are kept.
func TestFoldsWrap(t *testing.T) {
	l := ins(two([3]int{1, 0, api.WordHigh}, [3]int{1, 1, 1}, [3]int{2, 0, 1<<32 + 5}, [3]int{3, 0, low}, [3]int{4, 0, high}, [3]int{4, 1, high}), nil)
	viewIs(t, l, fold(api.FoldCount, 0, part(0)), [3]int{1, api.WordLow, 1}, [3]int{2, 5, 1}, [3]int{3, 0, 1}, [3]int{4, -2, 1})
	l = ins(two([3]int{1, api.WordHigh, 2}, [3]int{2, api.WordLow, 3}, [3]int{3, 3, high}, [3]int{4, -1, api.WordLow}), nil)
	viewIs(t, l, fold(api.FoldSum, 0, part(0), part(1)), [3]int{1, -2, 1}, [3]int{2, api.WordLow, 1}, [3]int{3, -3, 1}, [3]int{4, api.WordLow, 1})
}

// TestExamples: the examples of the chapter.
func TestExamples(t *testing.T) {
	in := two([3]int{1, 2, 1}, [3]int{2, 3, 2}, [3]int{3, 1, 1})
	once := each([]int{1, 2})
	all := each([]int{1, 1}, []int{1, 2}, []int{1, 3}, []int{2, 1}, []int{2, 2}, []int{2, 3}, []int{3, 1}, []int{3, 2}, []int{3, 3})
	l, e := query.Answers(sample(), ins(in, once))
	areRels(t, l, e, ins(all, each([]int{3, 1}, []int{3, 2}), each([]int{1, 3}, []int{2, 3}, []int{3, 3})), api.OK)
	in[2].N = -1
	some := each([]int{1, 2}, []int{1, 3}, []int{2, 3})
	l, e = query.Answers(sample(), ins(in, once))
	areRels(t, l, e, ins(some, each([]int{3, 1}, []int{3, 2}), each([]int{1, 2}, []int{2, 1})), api.OK)
	l, e = query.Eval(sample(), ins(in, once))
	areRels(t, l, e, ins(in, once, some, each([]int{3, 1}, []int{3, 2}), each([]int{1, 2}, []int{2, 1}), two([3]int{1, 2, -1}, [3]int{2, 3, -2}, [3]int{3, 1, 1})), api.OK)
	l, e = query.Apply(sample(), ins(in, once), ins(two([3]int{3, 1, 2}), nil))
	areRels(t, l, e, ins(two([3]int{1, 2, 1}, [3]int{2, 3, 2}, [3]int{3, 1, 1}), once), api.OK)
}

// TestAnswers: P6.3: the relations that Outs names are answered, in order, as often as it names them.
func TestAnswers(t *testing.T) {
	l := ins(two([3]int{1, 2, 1}, [3]int{2, 3, -2}), each([]int{1, 2}))
	p := sample()
	rels := must(query.Eval(p, l))
	for _, outs := range [][]int{nil, {0}, {1, 0}, {5, 5, 3, 0, 5, 2}, {0, 1, 2, 3, 4, 5, 5, 5}} {
		p.Outs = outs
		var want []api.Zset
		for _, rel := range outs {
			want = append(want, rels[rel])
		}
		got, e := query.Answers(p, l)
		areRels(t, got, e, want, api.OK)
		got, e = query.Eval(p, l)
		areRels(t, got, e, rels, api.OK)
	}
	none, e := query.Eval(program([]api.Type{either}), ins(zset(row(tag(0, num(3)), -7))))
	areRels(t, none, e, ins(zset(row(tag(0, num(3)), -7))), api.OK)
}
