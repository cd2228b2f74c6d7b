package strat_test

import (
	"math/rand"
	"slices"
	"testing"

	"deltaworks/api"
)

// TestExamples: the table of the chapter.
func TestExamples(t *testing.T) {
	are(t, 5, loose(rulesR), ordered([][]int{{0}, {1, 2}, {3}, {4}}, 0, 0, 0, 1, 1))
	are(t, 5, loose(rulesS), clashing(2, 3))
	reaches(t, 5, loose(rulesR), []int{2}, []int{1, 2, 3, 4}, api.OK)
	reaches(t, 5, loose(rulesR), []int{4, 3}, []int{3, 4}, api.OK)
	are(t, 1, loose("0: !0"), clashing(0))
}

// TestOrder: P8.1 and P8.3: blocks, in their order, and levels.
func TestOrder(t *testing.T) {
	for _, x := range []struct {
		rels   int
		rules  string
		blocks [][]int
		levels []int
	}{
		{1, "", [][]int{{0}}, []int{0}},
		{1, "0:", [][]int{{0}}, []int{0}},
		{1, "0: 0 0 0", [][]int{{0}}, []int{0}},
		{3, "", [][]int{{0}, {1}, {2}}, []int{0, 0, 0}},
		{3, "0: 1; 1: 2", [][]int{{2}, {1}, {0}}, []int{0, 0, 0}},
		{3, "0: !1; 1: !2", [][]int{{2}, {1}, {0}}, []int{2, 1, 0}},
		{3, "0: 2; 2: 0", [][]int{{0, 2}, {1}}, []int{0, 0, 0}},
		{3, "0: 2 1; 2: 0", [][]int{{1}, {0, 2}}, []int{0, 0, 0}},
		{3, "2: 0 1; 0: 1; 1: 2", [][]int{{0, 1, 2}}, []int{0, 0, 0}},
		// A block comes as soon as it can, by its least relation, and one that can come by then goes ahead of one that could come before.
		{5, "1: 4", [][]int{{0}, {2}, {3}, {4}, {1}}, []int{0, 0, 0, 0, 0}},
		{5, "1: 2 4; 4: 1 2", [][]int{{0}, {2}, {1, 4}, {3}}, []int{0, 0, 0, 0, 0}},
		{5, "0: 3; 1: 3 4; 4: 1", [][]int{{2}, {3}, {0}, {1, 4}}, []int{0, 0, 0, 0, 0}},
		{4, "0: 1; 3: 2; 2: 3", [][]int{{1}, {0}, {2, 3}}, []int{0, 0, 0, 0}},
		{6, "5: 0; 0: 5 1; 1: 4 1; 4: 1; 2: !3", [][]int{{1, 4}, {0, 5}, {3}, {2}}, []int{0, 0, 1, 0, 0, 0}},
		// A denial counts, whichever atom of whichever rule has it.
		{2, "1: 0 !0", [][]int{{0}, {1}}, []int{0, 1}},
		{2, "1: !0 0", [][]int{{0}, {1}}, []int{0, 1}},
		{2, "1: 0; 1: !0; 1: 0", [][]int{{0}, {1}}, []int{0, 1}},
		// A level is the greatest that is asked for; one within a block is that of all of it.
		{6, "1: !0; 2: !1; 3: 2 !0; 4: !2 0; 5: !0 1 0", [][]int{{0}, {1}, {2}, {3}, {4}, {5}}, []int{0, 1, 2, 2, 3, 1}},
		{6, "1: 3; 3: 5; 5: 1 !0; 4: 3; 2: !3 !4", [][]int{{0}, {1, 3, 5}, {4}, {2}}, []int{0, 1, 2, 1, 1, 1}},
	} {
		are(t, x.rels, loose(x.rules), ordered(x.blocks, x.levels...))
	}
}

// TestReason: P8.2: the shortest cycle of denial, and of several the least one.
func TestReason(t *testing.T) {
	for _, x := range []struct {
		rels   int
		rules  string
		reason []int
	}{
		{3, "2: 2 !2", []int{2}},
		{3, "2: !2; 1: !1", []int{1}},
		{3, "0: !1; 1: 0; 2: !2", []int{2}},
		{3, "0: 1; 1: !0", []int{1, 0}},
		{3, "0: !1; 1: !0", []int{0, 1}},
		// The first one denies the second one, and is not always the least one.
		{3, "0: 1; 1: 2; 2: !0", []int{2, 0, 1}},
		{3, "0: 1; 1: !2; 2: 0", []int{1, 2, 0}},
		// A denial that leads nowhere is none of a cycle.
		{4, "0: !1 !3; 1: 2; 2: 0; 3: 1", []int{0, 1, 2}},
		{4, "0: 1 !3; 1: !2; 2: 1", []int{1, 2}},
		// The shortest way back, then the least one.
		{6, "0: !1; 1: 5 4; 5: 0; 4: 3; 3: 0", []int{0, 1, 5}},
		{6, "0: !1; 1: 5 4; 5: 0; 4: 0", []int{0, 1, 4}},
		{6, "0: !2 !1; 1: 3; 2: 0; 3: 0", []int{0, 2}},
		{6, "0: !2 !1; 1: 3; 2: 4; 3: 0; 4: 0", []int{0, 1, 3}},
		{7, "0: !1; 1: 2 3; 2: 6 5; 3: 4; 4: 0; 5: 0; 6: 0", []int{0, 1, 2, 5}},
		{7, "6: !5; 5: 4; 4: 6; 3: !2; 2: 1; 1: 3", []int{3, 2, 1}},
		{4, "3: !0; 2: !0; 0: 1; 1: 2 3", []int{2, 0, 1}},
	} {
		are(t, x.rels, loose(x.rules), clashing(x.reason...))
	}
}

// TestReach: P8.4: what leads to some relations, whether it is in order or not.
func TestReach(t *testing.T) {
	for _, x := range []struct {
		rels       int
		rules      string
		from, want []int
	}{
		{1, "", nil, nil},
		{1, "", []int{0}, []int{0}},
		{1, "0: !0", []int{0, 0, 0}, []int{0}},
		{5, rulesR, nil, nil},
		{5, rulesR, []int{0}, []int{0, 1, 2, 3, 4}},
		{5, rulesR, []int{3, 4, 3}, []int{3, 4}},
		{5, rulesR, []int{4}, []int{4}},
		{5, rulesS, []int{3}, []int{1, 2, 3, 4}},
		{5, "0: 1; 1: 2; 2: 3; 3: 4", []int{2}, []int{0, 1, 2}},
		{5, "0: !1; 1: !2; 2: 3; 3: 4", []int{3, 1}, []int{0, 1, 2, 3}},
		{5, "0: 1; 0: 4; 3: 4; 3: 2", []int{4, 1}, []int{0, 1, 3, 4}},
	} {
		reaches(t, x.rels, loose(x.rules), x.from, x.want, api.OK)
	}
}

// TestOtherFields: a loose rule is asked for nothing but its Head, and the relations of its atoms; whether it is one of a program is no matter.
func TestOtherFields(t *testing.T) {
	rules := loose(rulesR)
	for i := range rules {
		r := &rules[i].Rule
		r.Head, r.Tests = []api.Term{{Var: 99}}, times(9, api.Exp{Op: -1})
		for k := range r.Body {
			r.Body[k].Args = times(9, api.Term{Var: -2})
		}
	}
	are(t, 5, rules, all(5, loose(rulesR)))
	reaches(t, 5, rules, []int{2}, []int{1, 2, 3, 4}, api.OK)
}

// graphs are the rules of so many relations for all uses and denials: the ones of each relation in one rule.
func graphs(rels int, do func([]api.StratRule)) {
	many := 1
	for range rels * rels {
		many *= 3
	}
	for n := range many {
		var l []api.StratRule
		for a := range rels {
			r := api.StratRule{Head: a}
			for b := range rels {
				if n%3 > 0 {
					r.Rule.Body = append(r.Rule.Body, api.Atom{Rel: b, Not: n%3 == 2})
				}
				n /= 3
			}
			l = append(l, r)
		}
		do(l)
	}
}

// TestAllOfFew: P8.1 to P8.4 and P8.7: whatever up to three relations use and deny.
func TestAllOfFew(t *testing.T) {
	for rels := 1; rels <= 3; rels++ {
		graphs(rels, func(rules []api.StratRule) {
			m := modelOf(rels, rules)
			are(t, rels, rules, m.want(false))
			are(t, rels, rules, m.want(true))
			for some := range 1 << rels {
				var from []int
				for a := range rels {
					if some>>a&1 == 1 {
						from = append(from, a)
					}
				}
				reaches(t, rels, rules, from, m.reach(from), api.OK)
			}
		})
	}
}

// TestAnyRules: P8.1 to P8.4: rules of any relations, some of them in order.
func TestAnyRules(t *testing.T) {
	for most, times := range map[int]int64{6: 15000, api.StratRels: 1200} {
		for seed := range times {
			r := rand.New(rand.NewSource(seed))
			rels, rules := anyRules(r, most)
			m := modelOf(rels, rules)
			are(t, rels, rules, m.want(most > 6))
			from := r.Perm(rels)[:r.Intn(min(rels, 4)+1)]
			reaches(t, rels, rules, from, m.reach(from), api.OK)
		}
	}
}

// TestLong: chains of as many relations as there can be, of which each one denies the next one.
func TestLong(t *testing.T) {
	most := api.StratRels
	var up, down []api.StratRule
	var rising, falling [][]int
	for n := range most {
		if n > 0 {
			up = append(up, tied(n, n-1, true))
			down = append(down, tied(n-1, n, true))
		}
		rising, falling = append(rising, []int{n}), append(falling, []int{most - 1 - n})
	}
	are(t, most, up, ordered(rising, slices.Concat(rising...)...))
	are(t, most, down, ordered(falling, slices.Concat(falling...)...))
	reaches(t, most, up, []int{3}, ints(3, most), api.OK)
	reaches(t, most, down, []int{3}, ints(0, 4), api.OK)
}

// TestRings: rings of as many relations as there can be, without a denial and with one of them.
func TestRings(t *testing.T) {
	most := api.StratRels
	for _, step := range []int{1, 5, most - 1} {
		for denied := range most + 1 {
			var rules []api.StratRule
			var cycle []int
			for n := range most {
				rules = append(rules, tied(n, (n+step)%most, n == denied))
				cycle = append(cycle, (denied+n*step)%most)
			}
			want := clashing(cycle...)
			if denied == most {
				want = ordered([][]int{ints(0, most)}, times(most, 0)...)
			}
			are(t, most, rules, want)
			reaches(t, most, rules, []int{denied % most}, ints(0, most), api.OK)
		}
	}
}
