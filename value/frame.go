package value

import "deltaworks/api"

// frame is what stands ahead of the parts of a list, between each two of them, and behind them.
type frame struct{ open, between, end string }

// frames are those of the texts of types. What ends with nothing has no parts.
var frames = [...]frame{
	api.TypeInt:   {open: "int"},
	api.TypeText:  {open: "text"},
	api.TypeTuple: {"(", ", ", ")"},
	api.TypeSum:   {"[", " + ", "]"},
}

// What keys begin with, kind by kind, and what ends those of texts and tuples.
const (
	keyEnd = iota
	keyWord
	keyText
	keyTuple
	keyTag
)
