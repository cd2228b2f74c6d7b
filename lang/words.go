package lang

import "deltaworks/api"

// Where a word stands that means something there.
const (
	ofExps = iota
	ofViews
	ofFolds
	ofTypes
)

// use is a word where it stands, and meaning what it means there.
type use struct {
	where int
	name
}

type meaning struct{ op, n int }

// meanings are those of all words by which what comes behind them is told apart.
func meanings() map[use]meaning {
	words := map[use]meaning{
		{ofTypes, name{letters: "int"}}:  {op: api.TypeInt},
		{ofTypes, name{letters: "text"}}: {op: api.TypeText},
	}
	for op, f := range forms() {
		if f.name != (name{}) {
			words[use{ofExps, f.name}] = meaning{op: op}
		}
	}
	for n, s := range operations() {
		words[use{ofExps, name{letters: s}}] = meaning{op: api.ExpBin, n: n}
	}
	for op, f := range views() {
		words[use{ofViews, name{letters: f.word}}] = meaning{op: op}
	}
	for n, f := range folds() {
		words[use{ofFolds, name{letters: f.word}}] = meaning{n: n}
	}
	return words
}
