package query

import (
	"iter"

	"deltaworks/api"
	"deltaworks/lists"
	"deltaworks/types"
	"deltaworks/zset"
)

type joined struct{ plain }

func (joined) reads(view) [][]int { return [][]int{{0}, {1}, {0, 1}} }

func (joined) typ(v view) api.Type {
	made := v.made()
	types.NeedOne(made[:2]...)
	return made[2]
}

// rows leaves what cannot but have too many rows.
func (joined) rows(v view, rels []api.Zset) []api.Zset {
	formulas, from := v.formulas(), v.from(rels)
	grows := lists.All(from, isSmall)
	counts := newGroups[int]()
join:
	for a, b := range pairs(formulas, from) {
		*counts.of(formulas[2].of(a.Row, b.Row)) += a.N * b.N
		if grows && len(counts.all) > api.RowsMost {
			break join
		}
	}
	return alone(zset.Make(lists.Changed(counts.all, counted)))
}

// pairs are the items of two collections whose rows have the same key: each collection has a formula for it.
func pairs(keys []formula, from []api.Zset) iter.Seq2[api.Item, api.Item] {
	met := newGroups[[2]api.Zset]()
	for i, z := range from {
		for _, item := range z {
			of := met.of(keys[i].of(item.Row))
			of[i] = append(of[i], item)
		}
	}
	return func(yield func(a, b api.Item) bool) {
		for _, g := range met.all {
			for _, a := range g.has[0] {
				for _, b := range g.has[1] {
					if !yield(a, b) {
						return
					}
				}
			}
		}
	}
}

func counted(g grouped[int]) api.Item { return api.Item{Row: g.value, N: g.has} }

// isSmall reports whether all counts of a collection are from 1 to 65536. Products of two such counts, as many as two collections can have, add up to less than 64 bits hold, so that no sum of them is 0.
func isSmall(z api.Zset) bool {
	return lists.All(z, func(item api.Item) bool { return isFrom(item.N, 1, 1<<16) })
}
