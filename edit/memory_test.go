package edit_test

import (
	"math/rand"
	"testing"

	"deltaworks/api"
	"deltaworks/edit"
)

func cloneValue(v api.Value) api.Value {
	v.L = cloneList(v.L)
	return v
}

func cloneList(l []api.Value) []api.Value {
	made := make([]api.Value, 0, len(l))
	for _, v := range l {
		made = append(made, cloneValue(v))
	}
	return made
}

func clone(e []api.EditPiece) (made []api.EditPiece) {
	for _, p := range e {
		made = append(made, api.EditPiece{Kind: p.Kind, N: p.N, L: cloneList(p.L)})
	}
	return made
}

// spoilList alters all values of a list, and all their parts, also those that stand behind its end.
func spoilList(l []api.Value) {
	l = l[:cap(l)]
	for i := range l {
		spoilList(l[i].L)
		l[i] = text("spoilt")
	}
}

func spoil(e []api.EditPiece) {
	e = e[:cap(e)]
	for i := range e {
		spoilList(e[i].L)
		e[i] = api.EditPiece{Kind: 9, N: 77}
	}
}

// args are what functions are called with: two edits of a list, one of what the first one makes, and the list.
type args struct {
	e, f, behind []api.EditPiece
	l, m         []api.Value
}

func anyArgs(r *rand.Rand) args {
	from := cloneList(anyList(r, 6))
	a, b := anyModel(r, from), anyModel(r, from)
	return args{a.edit(), b.edit(), anyModel(r, a.to).edit(), from, cloneList(b.to)}.clone()
}

func (a args) clone() args {
	return args{clone(a.e), clone(a.f), clone(a.behind), cloneList(a.l), cloneList(a.m)}
}

func (a args) same(b args) bool {
	return same(a.e, b.e) && same(a.f, b.f) && same(a.behind, b.behind) && sameList(a.l, b.l) && sameList(a.m, b.m)
}

func (a args) spoil() {
	for _, e := range [][]api.EditPiece{a.e, a.f, a.behind} {
		spoil(e)
	}
	spoilList(a.l)
	spoilList(a.m)
}

// made returns all that functions make of arguments; a list is told as an edit that puts it.
func (a args) made() [][]api.EditPiece {
	second, first, err := edit.Cross(a.e, a.f)
	if err != api.OK {
		panic("Cross")
	}
	return [][]api.EditPiece{
		second, first, must(edit.Diff(a.l, a.m)), must(edit.Diff(a.m, a.l)), must(edit.Invert(a.e)), must(edit.Compose(a.e, a.behind)),
		pieces(put(must(edit.Apply(a.e, a.l))...)), pieces(put(must(edit.Apply(a.f, a.l))...)), pieces(put(must(edit.Chars("ab"))...)),
	}
}

// TestArgumentsAreOnlyRead: P3.8, of arguments.
func TestArgumentsAreOnlyRead(t *testing.T) {
	anyTimes(13, func(r *rand.Rand) {
		a := anyArgs(r)
		kept := a.clone()
		a.made()
		edit.Check(a.e)
		edit.Cost(a.e)
		edit.OfChars(a.l)
		if !a.same(kept) {
			t.Fatalf("%s, %s, %s, %s, %s", told(a.e), told(a.f), told(a.behind), toldList(a.l), toldList(a.m))
		}
	})
}

// TestResultsAreNew: P3.8, of results: what is done with one alters no argument and no other result; and no argument is retained.
func TestResultsAreNew(t *testing.T) {
	r := rand.New(rand.NewSource(14))
	for range 300 {
		a := anyArgs(r)
		kept := a.clone()
		results := a.made()
		var before [][]api.EditPiece
		for _, e := range results {
			before = append(before, clone(e))
		}
		for i, e := range results {
			spoil(e)
			for k := i + 1; k < len(results); k++ {
				if !same(results[k], before[k]) {
					t.Fatalf("the results %d and %d share memory", i, k)
				}
			}
		}
		if !a.same(kept) {
			t.Fatal("a result shares memory with an argument")
		}
		results = a.made()
		a.spoil()
		for i, e := range results {
			if !same(e, before[i]) {
				t.Fatalf("the result %d is another one now, or shares memory with an argument", i)
			}
		}
	}
}

// TestPiecesAreApart: P3.8: the pieces of one result, its values, and their parts, share no memory.
func TestPiecesAreApart(t *testing.T) {
	shared := tuple(num(1), num(2))
	twice := tuple(shared, shared)
	a := args{l: list(twice, twice, shared), m: list(shared, twice, shared)}
	a.e = pieces(put(twice, shared), keep(1), drop(twice, shared), put(twice, shared))
	a.f = pieces(drop(twice), put(twice, twice), keep(1), drop(shared), put(twice))
	a.behind = pieces(drop(twice), put(shared, shared), keep(1), drop(twice), keep(2), put(shared))
	for i, e := range a.made() {
		before := clone(e)
		for k, p := range e {
			for h := range p.L {
				at := p.L[h].L
				for n := range at {
					spoilList(at[n].L)
					if !same(e[k+1:], before[k+1:]) || !sameList(p.L[h+1:], before[k].L[h+1:]) || !sameList(at[n+1:], before[k].L[h].L[n+1:]) {
						t.Fatalf("%d: the piece %d shares memory", i, k)
					}
				}
				spoilList(at)
				if !same(e[k+1:], before[k+1:]) || !sameList(p.L[h+1:], before[k].L[h+1:]) {
					t.Fatalf("%d: the piece %d shares memory", i, k)
				}
			}
			spoilList(p.L)
			if !same(e[k+1:], before[k+1:]) {
				t.Fatalf("%d: the piece %d shares memory", i, k)
			}
		}
	}
}

// TestNoRoom: P3.8: what is put behind a list that is returned, twice, never shares memory.
func TestNoRoom(t *testing.T) {
	anyTimes(16, func(r *rand.Rand) {
		for i, e := range anyArgs(r).made() {
			if cap(e) > len(e) {
				t.Fatalf("%d: room for %d pieces", i, cap(e)-len(e))
			}
			for _, p := range e {
				if cap(p.L) > len(p.L) {
					t.Fatalf("%d: room for %d values", i, cap(p.L)-len(p.L))
				}
			}
		}
	})
}

// TestAgain: W11: what a function returns depends on its arguments alone.
func TestAgain(t *testing.T) {
	anyTimes(15, func(r *rand.Rand) {
		a := anyArgs(r)
		once := a.made()
		anyArgs(r).made()
		for i, e := range a.clone().made() {
			if !same(e, once[i]) {
				t.Fatalf("%d: %s, %s", i, told(e), told(once[i]))
			}
		}
	})
}
