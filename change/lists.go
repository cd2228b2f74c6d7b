package change

import (
	"deltaworks/api"
	"deltaworks/edit"
	"deltaworks/lists"
	"deltaworks/refuse"
)

// list is a type of data that are lists of the values that it has.
type list struct{ has func(api.Value) bool }

func (k list) is(d api.Data) bool {
	l := d.List
	d.List = nil
	return blankData(d) && len(l) <= api.EditMost && lists.All(l, k.has)
}

func (k list) fits(c api.Change) bool {
	e := c.Edit
	c.Edit = nil
	return blankChange(c) && (len(e) == 0 || k.edits(e))
}

// edits reports whether an edit is one of short lists of such values, and not one that only keeps.
func (k list) edits(e []api.EditPiece) bool {
	cost, err := edit.Cost(e)
	return err == api.OK && cost > 0 && lists.All(e, func(p api.EditPiece) bool { return lists.All(p.L, k.has) })
}

func (k list) empty() api.Data { return api.Data{} }

func (k list) apply(d api.Data, c api.Change) api.Data {
	d.List = refuse.Got(edit.Apply(c.Edit, d.List))
	return d
}

func (k list) diff(a, b api.Data) api.Change { return editing(edit.Diff(a.List, b.List)) }

func (k list) invert(c api.Change) api.Change { return editing(edit.Invert(c.Edit)) }

func (k list) compose(a, b api.Change) api.Change { return editing(edit.Compose(a.Edit, b.Edit)) }

func (k list) merge(a, b api.Change) api.Change {
	behind, _, e := edit.Cross(a.Edit, b.Edit)
	if e == api.ErrLong {
		return tooLong()
	}
	return editing(edit.Compose(a.Edit, refuse.Got(behind, e)))
}

// editing is the change that an edit is, which changes nothing if the edit only keeps; an error refuses.
func editing(e []api.EditPiece, err api.Errno) api.Change {
	refuse.Unless(err == api.OK, err)
	if refuse.Got(edit.Cost(e)) == 0 {
		return api.Change{}
	}
	return api.Change{Edit: e}
}

// tooLong stands for a change to lists that are too long to be told: no type has it. That is not refused at once, as there may be a clash behind it.
func tooLong() api.Change {
	return api.Change{Edit: []api.EditPiece{{Kind: api.EditKeep, N: api.EditMost + 1}}}
}

// text is the type of data that are texts: they change as the lists of their bytes do.
type text struct{ list }

// isChar reports whether a value is a byte of a text.
func isChar(v api.Value) bool {
	_, e := edit.OfChars([]api.Value{v})
	return e == api.OK
}

func (k text) is(d api.Data) bool {
	_, e := edit.Chars(d.S)
	d.S = ""
	return blankData(d) && e == api.OK
}

func (k text) apply(d api.Data, c api.Change) api.Data {
	made := k.list.apply(listed(d), c)
	d.S = refuse.Got(edit.OfChars(made.List))
	return d
}

func (k text) diff(a, b api.Data) api.Change { return k.list.diff(listed(a), listed(b)) }

// listed returns the list of the bytes of a text.
func listed(d api.Data) api.Data { return api.Data{List: refuse.Got(edit.Chars(d.S))} }
