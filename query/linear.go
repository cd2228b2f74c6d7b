package query

import (
	"slices"

	"deltaworks/api"
	"deltaworks/lists"
	"deltaworks/refuse"
	"deltaworks/types"
	"deltaworks/zset"
)

// whole is what kinds have in common that take rows as they are: their type is the one of all that they are made of.
type whole struct{ plain }

func (whole) typ(v view) api.Type { return v.one() }

type summed struct{ whole }

func (summed) rows(v view, rels []api.Zset) []api.Zset { return alone(zset.Sum(v.from(rels))) }

type negated struct{ whole }

func (negated) rows(v view, rels []api.Zset) []api.Zset { return alone(zset.Neg(v.from(rels)[0])) }

type once struct{ whole }

func (once) rows(v view, rels []api.Zset) []api.Zset { return alone(zset.Once(v.from(rels)[0])) }

type kept struct{ whole }

func (kept) reads(view) [][]int { return [][]int{{0}} }

func (kept) typ(v view) api.Type {
	types.Need(v.made(), types.Word())
	return v.one()
}

func (kept) rows(v view, rels []api.Zset) []api.Zset {
	is := v.formulas()[0]
	var made []api.Item
	for _, item := range v.from(rels)[0] {
		if is.of(item.Row).N != 0 {
			made = append(made, item)
		}
	}
	return alone(zset.Make(made))
}

type mapped struct{ plain }

// reads asks for as many expressions as there are, unless they are too few, or too many.
func (mapped) reads(v view) [][]int {
	return slices.Repeat([][]int{{0}}, min(max(len(v.F), 1), api.MapMost))
}

func (mapped) typ(v view) api.Type { return types.NeedOne(v.made()...) }

func (mapped) rows(v view, rels []api.Zset) []api.Zset {
	formulas := v.formulas()
	var made []api.Item
	for _, item := range v.from(rels)[0] {
		made = append(made, lists.Changed(formulas, func(f formula) api.Item {
			return api.Item{Row: f.of(item.Row), N: item.N}
		})...)
	}
	return alone(zset.Make(made))
}

// alone returns the one collection of a view that has no others behind it in its block.
func alone(z api.Zset, e api.Errno) []api.Zset { return []api.Zset{refuse.Got(z, e)} }
