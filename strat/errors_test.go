package strat_test

import (
	"math"
	"slices"
	"testing"

	"deltaworks/api"
)

// tooLong is a rule with an atom too many, of relations that there are not.
func tooLong() []api.StratRule { return loose("-1: 99 99 99 99 99 99 99") }

// TestRefused: the errors that all functions but Prog have in common, the one that is named first ahead of others.
func TestRefused(t *testing.T) {
	for _, x := range []struct {
		rels  int
		rules []api.StratRule
		e     api.Errno
	}{
		{0, nil, api.ErrArg},
		{-1, nil, api.ErrArg},
		{api.StratRels + 1, nil, api.ErrArg},
		{math.MinInt, times(61, tooLong()[0]), api.ErrArg},
		{math.MaxInt, loose("2: 2"), api.ErrArg},
		{2, make([]api.StratRule, 61), api.ErrLong},
		{2, times(61, loose("9: 9")[0]), api.ErrLong},
		{2, loose("0: 0 0 0 0 0 0 0"), api.ErrLong},
		{2, loose("0: 0 0 0 0 0 0 !0"), api.ErrLong},
		{2, tooLong(), api.ErrLong},
		{2, loose("2:"), api.ErrRange},
		{2, loose("-1:"), api.ErrRange},
		{2, loose("0: 2"), api.ErrRange},
		{2, loose("0: -1"), api.ErrRange},
		{2, loose("0: !2"), api.ErrRange},
		{2, loose("0: 1 1 1 1 1 -1"), api.ErrRange},
		{48, loose("48:"), api.ErrRange},
		{48, loose("47: 48"), api.ErrRange},
		// Rule by rule; and ahead of what is not in order.
		{2, slices.Concat(loose("0: 0; 0: 2"), tooLong()), api.ErrRange},
		{2, slices.Concat(loose("0: 0; 2: 0"), tooLong()), api.ErrRange},
		{2, slices.Concat(loose("0: 0"), tooLong(), loose("0: 2")), api.ErrLong},
		{2, loose("0: !0; 0: 2"), api.ErrRange},
		{2, slices.Concat(loose("0: !0"), tooLong()), api.ErrLong},
	} {
		are(t, x.rels, x.rules, refused(x.e))
		reaches(t, x.rels, x.rules, nil, nil, x.e)
		reaches(t, x.rels, x.rules, []int{-1}, nil, x.e)
	}
}

// TestMost: as many relations, rules and atoms as there can be.
func TestMost(t *testing.T) {
	one := make([][]int, 48)
	for n := range one {
		one[n] = []int{n}
	}
	are(t, 48, nil, ordered(one, times(48, 0)...))
	are(t, 48, make([]api.StratRule, 60), ordered(one, times(48, 0)...))
	rules := times(60, loose("47: 0 1 2 3 4 !46")[0])
	are(t, 48, rules, ordered(one, append(times(47, 0), 1)...))
	reaches(t, 48, rules, []int{4}, []int{4, 47}, api.OK)
	reaches(t, 48, rules, times(100000, 46), []int{46, 47}, api.OK)
}

// TestReachRefused: P8.4: ErrRange, if one of the relations is none, behind all other errors.
func TestReachRefused(t *testing.T) {
	for _, from := range [][]int{{-1}, {5}, {0, 1, 5}, {math.MinInt, 2}, {3, math.MaxInt}} {
		reaches(t, 5, loose(rulesR), from, nil, api.ErrRange)
		reaches(t, 5, loose(rulesS), from, nil, api.ErrRange)
		reaches(t, 5, tooLong(), from, nil, api.ErrLong)
	}
}
