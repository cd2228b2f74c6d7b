package query

import "iter"

// matching are the bindings in which a relation has the row of an atom.
func (f *facts) matching(a atom, b binding) iter.Seq[binding] {
	return func(yield func(binding) bool) {
		r, places := b.row(a.args)
		for _, r := range f.having(look{a.rel, places, r}) {
			if now, can := b.with(a.args, r); can && !yield(now) {
				return
			}
		}
	}
}

// turn is where a search for bindings comes to: the atoms that are left (as bits), and what is known of the variables that are read from there on.
type turn struct {
	rest int
	read binding
}

// solutions are the bindings in which the atoms of a clause hold that are left (as bits), as far as they differ in what is read: no turn is taken twice, and where it makes no difference to what is read which row it is that matches, the first one stands for all of them. Otherwise atoms that have little to do with each other would be tried in all ways.
func (f *facts) solutions(c clause, rest int, b binding) iter.Seq[binding] {
	return func(yield func(binding) bool) {
		taken := map[turn]bool{}
		var walk func(rest int, b binding) bool
		walk = func(rest int, b binding) bool {
			if rest == 0 {
				return yield(b)
			}
			if reads := c.needs(rest); b.known&^reads != 0 { // otherwise there is no other way to come here
				here := turn{rest, b.only(reads)}
				if taken[here] {
					return true
				}
				taken[here] = true
			}
			i := c.next(rest, b)
			a, rest := c.body[i], rest&^(1<<i)
			if a.not {
				r, _ := b.row(a.args)
				return f.has(a.rel, r) || walk(rest, b)
			}
		rows:
			for now := range f.matching(a, b) {
				switch {
				case !walk(rest, now):
					return false
				case now.known&^b.known&c.needs(rest) == 0:
					break rows
				}
			}
			return true
		}
		walk(rest, b)
	}
}
