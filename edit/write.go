package edit

import "deltaworks/api"

// pieces are those of an edit, as far as it is written.
type pieces []api.EditPiece

// add puts a step behind the others: into the last piece, if it is of its kind.
func (p *pieces) add(s step) {
	if len(*p) == 0 || (*p)[len(*p)-1].Kind != s.kind {
		*p = append(*p, api.EditPiece{Kind: s.kind})
	}
	last := &(*p)[len(*p)-1]
	if s.kind == api.EditKeep {
		last.N++
		return
	}
	last.L = append(last.L, s.value())
}

// writer writes an edit. What is put waits until a value is kept: what is dropped ahead of that stands ahead of all that is put.
type writer struct {
	pieces
	waiting []step
}

// take writes a step.
func (w *writer) take(s step) {
	switch s.kind {
	case api.EditPut:
		w.waiting = append(w.waiting, s)
		return
	case api.EditKeep:
		w.settle()
	}
	w.add(s)
}

// settle writes what waits.
func (w *writer) settle() {
	each(w.waiting, w.add)
	w.waiting = nil
}

// done returns the edit. Its lists have no room behind their ends: what is put behind one of them, twice, never comes to the same place.
func (w *writer) done() []api.EditPiece {
	w.settle()
	for i, p := range w.pieces {
		w.pieces[i].L = p.L[:len(p.L):len(p.L)]
	}
	return w.pieces[:len(w.pieces):len(w.pieces)]
}

// written returns the edit of these steps.
func written(l []step) []api.EditPiece {
	var w writer
	each(l, w.take)
	return w.done()
}

// each does with each step of a list.
func each(l []step, do func(step)) {
	for _, s := range l {
		do(s)
	}
}

// joined returns a new list of the elements of several lists.
func joined[T any](lists ...[]T) []T {
	n := 0
	for _, l := range lists {
		n += len(l)
	}
	made := make([]T, n)
	at := 0
	for _, l := range lists {
		at += copy(made[at:], l)
	}
	return made
}
