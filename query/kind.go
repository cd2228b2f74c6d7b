package query

import "deltaworks/api"

// kind is what is known of the views of an operation.
type kind interface {
	// formed reports whether a view is formed, apart from its From and F.
	formed(v view) bool
	// reads returns, for each expression that a view has, of which of From rows are its variables.
	reads(v view) [][]int
	// typ returns the row type of a view that is formed, which is refused unless it is typed.
	typ(v view) api.Type
	// rows returns the rows of a view, and of those behind it in its block, made of all relations ahead of it.
	rows(v view, rels []api.Zset) []api.Zset
}

// operation is an operation of views: its kind, and how many relations a view names in From; if there can be none, From is not looked at.
type operation struct {
	kind
	least, most int
}

func operations() [8]operation {
	return [...]operation{
		api.ViewMap:   {mapped{}, 1, 1},
		api.ViewKeep:  {kept{}, 1, 1},
		api.ViewSum:   {summed{}, 1, api.SumMost},
		api.ViewNeg:   {negated{}, 1, 1},
		api.ViewOnce:  {once{}, 1, 1},
		api.ViewJoin:  {joined{}, 2, 2},
		api.ViewFold:  {folded{}, 1, 1},
		api.ViewRules: {rules{}, 0, 0},
	}
}

// plain is what kinds have in common: they need nothing besides From and F, and have no expressions.
type plain struct{}

func (plain) formed(view) bool { return true }

func (plain) reads(view) [][]int { return nil }
