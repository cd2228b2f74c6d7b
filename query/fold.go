package query

import (
	"deltaworks/api"
	"deltaworks/types"
	"deltaworks/zset"
)

type folded struct{ plain }

func (folded) formed(v view) bool { return isFrom(v.N, 0, len(folds())-1) }

func (folded) reads(v view) [][]int { return folds()[v.N].reads }

func (folded) typ(v view) api.Type {
	made := v.made()
	for _, t := range made[1:] {
		types.NeedOne(t, types.Word())
	}
	return types.NeedValid(types.Tuple(made[0], types.Word()))
}

func (folded) rows(v view, rels []api.Zset) []api.Zset {
	formulas := v.formulas()
	tallies := newGroups[tally]()
	for _, item := range v.from(rels)[0] {
		word := 1 // so that a count is a sum, too
		for _, f := range formulas[1:] {
			word = f.of(item.Row).N
		}
		tallies.of(formulas[0].of(item.Row)).take(word, item.N)
	}
	var made []api.Item
	for _, g := range tallies.all {
		if n, is := folds()[v.N].of(g.has); is {
			row := api.Value{Kind: api.ValueTuple, L: []api.Value{g.value, {N: n}}}
			made = append(made, api.Item{Row: row, N: 1})
		}
	}
	return alone(zset.Make(made))
}

// fold is what a group of rows is folded to: what its view reads for it, and which word it makes, if any.
type fold struct {
	reads [][]int
	of    func(tally) (word int, is bool)
}

func folds() [4]fold {
	key, both := [][]int{{0}}, [][]int{{0}, {0}}
	return [...]fold{
		api.FoldCount: {key, tally.sum},
		api.FoldSum:   {both, tally.sum},
		api.FoldMin:   {both, func(t tally) (int, bool) { return t.least, t.is }},
		api.FoldMax:   {both, func(t tally) (int, bool) { return t.most, t.is }},
	}
}

// tally is what is known of a group of rows: the sum of their words, each as often as its row is there, and, if some rows are there, the least and the greatest word of these.
type tally struct {
	total, least, most int
	is                 bool
}

// take adds a row with a word, and a count, to those of a group.
func (t *tally) take(word, n int) {
	t.total += word * n
	switch {
	case n <= 0:
	case t.is:
		t.least, t.most = min(t.least, word), max(t.most, word)
	default:
		t.least, t.most, t.is = word, word, true
	}
}

// sum returns what 32 bits keep of the total, which every group has.
func (t tally) sum() (int, bool) { return int(int32(t.total)), true }
