package edit

import (
	"iter"

	"deltaworks/api"
	"deltaworks/refuse"
)

// together are the steps of two edits of one list, as they meet at its values. Where one edit puts a value the list does not move on: there the other one is said to keep.
func together(e, f []step) iter.Seq2[step, step] {
	return func(yield func(step, step) bool) {
		i, k := 0, 0
		for i < len(e) || k < len(f) {
			x, y := kept(), kept()
			switch {
			case i < len(e) && e[i].kind == api.EditPut:
				x = e[i]
				i++
			case k < len(f) && f[k].kind == api.EditPut:
				y = f[k]
				k++
			default:
				x, y = e[i], f[k]
				i++
				k++
			}
			if !yield(x, y) {
				return
			}
		}
	}
}

// gap is what two edits of one list make of it ahead of a value that both keep, and behind the last such value: the steps by which one of them puts a value that it makes, or by which the other one drops it; and, at last, what both keep.
type gap struct{ ofOne, ofTwo, both []step }

func (g *gap) keep(x, _ step)    { g.both = append(g.both, x) }
func (g *gap) onePuts(x, _ step) { g.ofOne = append(g.ofOne, x) }
func (g *gap) twoPuts(_, y step) { g.ofTwo = append(g.ofTwo, y) }

// oneDrops says of what the first edit drops that the second one keeps it.
func (g *gap) oneDrops(x, _ step) { g.ofTwo = append(g.ofTwo, x) }

func (g *gap) twoDrops(_, y step) { g.ofOne = append(g.ofOne, y) }

// drop says of what both drop that neither makes it; it is one value.
func (g *gap) drop(x, y step) { refuse.Unless(x == y, api.ErrState) }

// meetings are what is done with two steps that meet, by both kinds. Two of which one puts, and the other one does not keep, never meet.
func meetings() [3][3]func(*gap, step, step) {
	return [...][3]func(*gap, step, step){
		api.EditKeep: {api.EditKeep: (*gap).keep, api.EditDrop: (*gap).twoDrops, api.EditPut: (*gap).twoPuts},
		api.EditDrop: {api.EditKeep: (*gap).oneDrops, api.EditDrop: (*gap).drop},
		api.EditPut:  {api.EditKeep: (*gap).onePuts},
	}
}

// gaps returns what comes of two edits, which are refused unless they are of one list. Two steps that keep meet only where both keep: what is put never meets.
func gaps(e, f []step) []gap {
	refuse.Unless(without(api.EditPut, e) == without(api.EditPut, f), api.ErrState)
	meet := meetings()
	made := make([]gap, 1)
	for x, y := range together(e, f) {
		g := &made[len(made)-1]
		meet[x.kind][y.kind](g, x, y)
		if len(g.both) > 0 {
			made = append(made, gap{})
		}
	}
	return made
}

// composed returns the steps of e, and of f behind it, as one edit. Turned back, e is of the list that f is of: the list that it makes.
func composed(e, f []step) []step {
	var made []step
	for _, g := range gaps(turned(e), f) {
		made = append(made, joined(all(api.EditDrop, g.ofOne), all(api.EditPut, g.ofTwo), g.both)...)
	}
	return made
}

// crossed returns the steps of f behind e, and of e behind f. They are refused if the list that both lead to is too long.
func crossed(e, f []step) (second, first []step) {
	for _, g := range gaps(e, f) {
		second = append(second, joined(passed(g.ofOne), puts(g.ofTwo), g.both)...)
		first = append(first, joined(puts(g.ofOne), passed(g.ofTwo), g.both)...)
	}
	refuse.Unless(without(api.EditDrop, second) <= api.EditMost, api.ErrLong)
	return second, first
}

// all returns the values of steps as steps of one kind.
func all(kind int, l []step) []step {
	made := make([]step, len(l))
	for i, s := range l {
		made[i] = step{kind, s.key}
	}
	return made
}

// puts returns those steps that put.
func puts(l []step) []step {
	var made []step
	for _, s := range l {
		if s.kind == api.EditPut {
			made = append(made, s)
		}
	}
	return made
}

// passed returns how an edit that comes behind another one goes through what that one makes: it keeps what that one put, and drops the rest.
func passed(l []step) []step {
	made := joined(l)
	for i, s := range made {
		if s.kind == api.EditPut {
			made[i] = kept()
		}
	}
	return made
}
