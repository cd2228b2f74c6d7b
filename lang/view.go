package lang

import "deltaworks/api"

// viewForm is what the views of an operation look like: their word, what N can be, of how many relations they are made, how many expressions they have, and how what is behind the word is read and written.
type viewForm struct {
	word                 string
	numbers, from, parts bounds
	read                 func(*reader, *api.View)
	write                func(*writer, api.View)
}

func views() [8]viewForm {
	return [...]viewForm{
		api.ViewMap:   {"map", only(0), only(1), from(1), (*reader).made, (*writer).made},
		api.ViewKeep:  {"keep", only(0), only(1), only(1), (*reader).made, (*writer).made},
		api.ViewSum:   {"sum", only(0), from(1), only(0), (*reader).made, (*writer).made},
		api.ViewNeg:   {"neg", only(0), only(1), only(0), (*reader).made, (*writer).made},
		api.ViewOnce:  {"once", only(0), only(1), only(0), (*reader).made, (*writer).made},
		api.ViewJoin:  {"join", only(0), only(2), only(3), (*reader).made, (*writer).made},
		api.ViewFold:  {"fold", bounds{0, api.FoldMax}, only(1), bounds{1, 2}, (*reader).fold, (*writer).fold},
		api.ViewRules: {"rules", numbers(), only(0), only(0), (*reader).rules, (*writer).rules},
	}
}

// fold is the word of what a fold makes, and how many expressions it needs for it.
type fold struct {
	word  string
	parts bounds
}

func folds() [4]fold {
	return [...]fold{
		api.FoldCount: {"count", only(1)},
		api.FoldSum:   {"sum", only(2)},
		api.FoldMin:   {"min", only(2)},
		api.FoldMax:   {"max", only(2)},
	}
}
