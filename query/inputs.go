package query

import (
	"deltaworks/api"
	"deltaworks/refuse"
	"deltaworks/zset"
)

// needInputs refuses collections unless they are as inputs must be.
func (c *program) needInputs(l []api.Zset) {
	refuse.Unless(len(l) == len(c.Inputs), api.ErrRange)
	for i, z := range l {
		refuse.Unless(zset.Typed(z, c.Inputs[i]) == api.OK, api.ErrRange)
	}
}

// together returns inputs, and a change, added one by one.
func together(ins, change []api.Zset) []api.Zset {
	made := make([]api.Zset, len(ins))
	for i, z := range ins {
		made[i] = plus(z, change[i])
	}
	return made
}

// plus returns the sum of two collections, which shares no memory with them.
func plus(a, b api.Zset) api.Zset { return refuse.Got(zset.Add(a, b)) }
