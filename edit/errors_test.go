package edit_test

import (
	"testing"

	"deltaworks/api"
	"deltaworks/edit"
)

// result is what a function returned: whether it is nothing, and its error.
type result struct {
	nothing bool
	e       api.Errno
}

func ofList[T any](l []T, e api.Errno) result { return result{len(l) == 0, e} }
func ofInt(n int, e api.Errno) result         { return result{n == 0, e} }
func ofError(e api.Errno) result              { return result{true, e} }

func ofCross(second, first []api.EditPiece, e api.Errno) result {
	return result{len(second) == 0 && len(first) == 0, e}
}

// ofOne calls each function of one edit.
func ofOne(e []api.EditPiece) map[string]result {
	return map[string]result{
		"Check":  ofError(edit.Check(e)),
		"Cost":   ofInt(edit.Cost(e)),
		"Invert": ofList(edit.Invert(e)),
	}
}

// ofTwo calls each function of two edits.
func ofTwo(e, f []api.EditPiece) map[string]result {
	return map[string]result{
		"Compose": ofList(edit.Compose(e, f)),
		"Cross":   ofCross(edit.Cross(e, f)),
	}
}

func expect(t *testing.T, i int, got map[string]result, e api.Errno) {
	t.Helper()
	for name, r := range got {
		if r.e != e || !r.nothing {
			t.Errorf("%d, %s: %t, %d", i, name, r.nothing, r.e)
		}
	}
}

// others returns edits, and lists, that have no error.
func others() ([][]api.EditPiece, [][]api.Value) {
	return [][]api.EditPiece{nil, ed("=2"), ed("-a +b =1"), ed("=300")}, [][]api.Value{nil, words("ab"), many(300)}
}

// invalidLists returns lists with values that are not valid, none of them too long; longLists lists that are too long, some of them with such values, too.
func invalidLists() (l [][]api.Value) {
	for _, v := range invalidValues() {
		l = append(l, list(v), list(num(1), v), list(v, text("a")), append(many(299), v))
	}
	return l
}

func longLists() [][]api.Value {
	bad := api.Value{Kind: 9}
	return [][]api.Value{many(301), many(70000), append(many(300), bad), append(list(bad), many(300)...), times(301, bad)}
}

// TestRefusedEdits: the errors that each function returns first of an edit, and nothing with them.
func TestRefusedEdits(t *testing.T) {
	edits, lists := others()
	for want, bad := range map[api.Errno][][]api.EditPiece{api.ErrArg: invalid(), api.ErrLong: long()} {
		for i, e := range bad {
			expect(t, i, ofOne(e), want)
			for _, other := range edits {
				expect(t, i, ofTwo(e, other), want)
				expect(t, i, ofTwo(other, e), want)
			}
			for _, l := range lists {
				expect(t, i, map[string]result{"Apply": ofList(edit.Apply(e, l))}, want)
			}
		}
	}
}

// TestRefusedLists: the errors that each function returns first of a list, and nothing with them.
func TestRefusedLists(t *testing.T) {
	edits, lists := others()
	for want, bad := range map[api.Errno][][]api.Value{api.ErrArg: invalidLists(), api.ErrLong: longLists()} {
		for i, l := range bad {
			for _, other := range lists {
				expect(t, i, map[string]result{"Diff": ofList(edit.Diff(l, other)), "Diff, other": ofList(edit.Diff(other, l))}, want)
			}
			for _, e := range edits {
				expect(t, i, map[string]result{"Apply": ofList(edit.Apply(e, l))}, want)
			}
			s, e := edit.OfChars(l)
			expect(t, i, map[string]result{"OfChars": {s == "", e}}, want)
		}
	}
}

// TestFirstErrorDecides: R1, of several arguments that have errors.
func TestFirstErrorDecides(t *testing.T) {
	bad, far := ed("=0"), ed("=301")
	badList, farList := list(num(1<<40)), many(301)
	expect(t, 0, ofTwo(bad, far), api.ErrArg)
	expect(t, 1, ofTwo(far, bad), api.ErrLong)
	expect(t, 2, map[string]result{"Apply": ofList(edit.Apply(bad, farList)), "Diff": ofList(edit.Diff(badList, farList))}, api.ErrArg)
	expect(t, 3, map[string]result{"Apply": ofList(edit.Apply(far, badList)), "Diff": ofList(edit.Diff(farList, badList))}, api.ErrLong)
	expect(t, 4, map[string]result{"Apply": ofList(edit.Apply(ed("=1 -b"), badList)), "Compose": ofList(edit.Compose(ed("+a"), bad)), "Cross": ofCross(edit.Cross(ed("-a"), bad))}, api.ErrArg)
	expect(t, 5, map[string]result{"Apply": ofList(edit.Apply(ed("=1 -b"), farList)), "Compose": ofList(edit.Compose(ed("+a"), far)), "Cross": ofCross(edit.Cross(ed("-a"), far))}, api.ErrLong)
}
