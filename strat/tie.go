package strat

// use is a relation, and one that it uses, or itself.
type use struct{ from, to int }

// tie is how a relation uses another one, which can be in the way of an order.
type tie interface {
	// parts reports whether both cannot be of one block.
	parts() bool
	// above returns the least level of the one, if the other one has this level.
	above(level int) int
}

func (use) parts() bool { return false }

func (use) above(level int) int { return level }

// denial is a use of what is denied.
type denial struct{ use }

func (denial) parts() bool { return true }

func (d denial) above(level int) int { return d.use.above(level) + 1 }

func (u use) plain() tie { return u }

func (u use) denied() tie { return denial{u} }

// atom is what an atom of a rule says: a use of its relation by the Head, and whether that is denied.
type atom struct {
	use use
	not bool
}

func (a atom) denies() bool { return a.not }
