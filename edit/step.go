package edit

import (
	"iter"

	"deltaworks/api"
	"deltaworks/refuse"
	"deltaworks/value"
)

// step is what an edit does with one value: it is kept, or the value with this key is dropped, or put. Keys stand for values, as steps are compared, and as what is read from a key shares no memory with an argument.
type step struct {
	kind int
	key  string
}

// kept is the step that keeps a value, whichever it is.
func kept() step { return step{kind: api.EditKeep} }

// back is what is done, kind by kind, to undo what an edit does.
var back = [...]int{
	api.EditKeep: api.EditKeep,
	api.EditDrop: api.EditPut,
	api.EditPut:  api.EditDrop,
}

// steps are those of an edit of which each piece is right.
func steps(e []api.EditPiece) iter.Seq[step] {
	return func(yield func(step) bool) {
		for _, p := range e {
			for range p.N {
				if !yield(kept()) {
					return
				}
			}
			for _, v := range p.L {
				if !yield(step{p.Kind, keyOf(v)}) {
					return
				}
			}
		}
	}
}

// checked returns the steps of an edit, which is refused unless it is valid, and of short lists.
func checked(e []api.EditPiece) []step {
	for i, p := range e {
		refuse.Unless(rightPiece(p), api.ErrArg)
		refuse.Unless(i == 0 || rightBehind(e[i-1].Kind, p.Kind), api.ErrArg)
	}
	var made []step
walk:
	for s := range steps(e) {
		made = append(made, s)
		if len(made) > 2*api.EditMost { // one of the lists is too long, and a piece may keep without end
			break walk
		}
	}
	refuse.Unless(without(api.EditPut, made) <= api.EditMost, api.ErrLong)
	refuse.Unless(without(api.EditDrop, made) <= api.EditMost, api.ErrLong)
	return made
}

// rightPiece reports whether a piece is valid by itself.
func rightPiece(p api.EditPiece) bool {
	switch p.Kind {
	case api.EditKeep:
		return p.N >= 1 && len(p.L) == 0
	case api.EditDrop, api.EditPut:
		return p.N == 0 && len(p.L) >= 1 && rightValues(p.L)
	}
	return false
}

func rightValues(l []api.Value) bool {
	for _, v := range l {
		if value.Check(v) != api.OK {
			return false
		}
	}
	return true
}

// rightBehind reports whether a piece of the one kind may stand directly behind one of the other kind.
func rightBehind(ahead, kind int) bool {
	return kind != ahead && (ahead != api.EditPut || kind != api.EditDrop)
}

// without returns how many steps are of other kinds. Without those that put these are all values of the list that an edit is of, without those that drop of the list that it makes, and without those that keep they are what it costs.
func without(kind int, l []step) int {
	n := 0
	for _, s := range l {
		if s.kind != kind {
			n++
		}
	}
	return n
}

// turned returns the steps that lead back.
func turned(l []step) []step {
	made := make([]step, len(l))
	for i, s := range l {
		made[i] = step{back[s.kind], s.key}
	}
	return made
}

// listed returns the steps that make a list of nothing; the list is refused if it is too long, or has a value that is not valid.
func listed(l []api.Value) []step {
	refuse.Unless(len(l) <= api.EditMost, api.ErrLong)
	made := make([]step, len(l))
	for i, v := range l {
		made[i] = step{api.EditPut, keyOf(v)}
	}
	return made
}

// keyOf returns the key of a value, which is refused unless it is valid.
func keyOf(v api.Value) string {
	return refuse.Got(value.Key(v))
}

// value returns the value that is dropped, or put.
func (s step) value() api.Value {
	v, _ := value.OfKey(s.key)
	return v
}
