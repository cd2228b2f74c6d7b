package change_test

import (
	"math/rand"
	"slices"

	"deltaworks/api"
	"deltaworks/edit"
	"deltaworks/zset"
)

// The model says what changes are and do, kind by kind, as the chapter's definitions do, and does not care how long it takes, or how great something becomes.

// nothing reports whether a change changes nothing.
func nothing(c api.Change) bool {
	switch c.Kind {
	case api.DataValue, api.DataCount:
		return c.N == 0
	case api.DataText, api.DataList:
		return len(c.Edit) == 0
	case api.DataBag, api.DataSet:
		return len(c.Rows) == 0
	case api.DataMap:
		return len(c.Keys) == 0
	}
	return !slices.ContainsFunc(c.L, func(x api.Change) bool { return !nothing(x) })
}

// plus returns a collection and n times another one.
func plus(a, b api.Zset, n int) api.Zset {
	l := slices.Clone(a)
	for _, x := range b {
		l = append(l, api.Item{Row: x.Row, N: n * x.N})
	}
	return must(zset.Make(l))
}

// hasCounts reports whether a collection has no counts but these.
func hasCounts(z api.Zset, counts ...int) bool {
	return !slices.ContainsFunc(z, func(x api.Item) bool { return !slices.Contains(counts, x.N) })
}

// low returns what 32 bits keep of a number.
func low(n int) int {
	for n > api.WordHigh {
		n -= 1 << 32
	}
	for n < api.WordLow {
		n += 1 << 32
	}
	return n
}

// more returns an edit, or none if it only keeps.
func more(e []api.EditPiece, err api.Errno) ([]api.EditPiece, bool) {
	if !slices.ContainsFunc(e, func(p api.EditPiece) bool { return p.Kind != api.EditKeep }) {
		return nil, err == api.OK
	}
	return e, err == api.OK
}

// find returns where a key is in a map, or in a change of one, or -1.
func find[T any](l []T, of func(T) api.Value, key api.Value) int {
	return slices.IndexFunc(l, func(x T) bool { return sameValue(of(x), key) })
}

func self(v api.Value) api.Value      { return v }
func keyed(x api.KeyChange) api.Value { return x.Key }
func isIn(key api.Value, c api.Change) []api.KeyChange {
	if nothing(c) {
		return nil
	}
	return []api.KeyChange{{Key: key, Op: api.KeyIn, Change: c}}
}

// sorted puts the keys of a map, or of a change of one, in order.
func sorted(d api.Data) api.Data {
	made := api.Data{Kind: d.Kind}
	for _, x := range plus(nil, once(1, d.Keys...), 1) {
		made.Keys, made.L = append(made.Keys, x.Row), append(made.L, d.L[find(d.Keys, self, x.Row)])
	}
	return made
}

func sortedKeys(c api.Change) api.Change {
	slices.SortFunc(c.Keys, func(x, y api.KeyChange) int {
		if keyText(x.Key) < keyText(y.Key) {
			return -1
		}
		return 1
	})
	return c
}

// modelApply returns a datum with a change applied, if it is one of this datum.
func modelApply(t api.DataType, d api.Data, c api.Change) (api.Data, bool) {
	if nothing(c) {
		return d, true
	}
	ok := true
	made := api.Data{Kind: t.Kind}
	switch t.Kind {
	case api.DataValue:
		made.V = c.New
		ok = sameValue(d.V, c.Old)
	case api.DataCount:
		made.N = low(d.N + c.N)
	case api.DataText:
		l, e := edit.Apply(c.Edit, words(d.S))
		ok = e == api.OK
		for _, v := range l {
			made.S += string(rune(v.N))
		}
	case api.DataList:
		l, e := edit.Apply(c.Edit, d.List)
		made.List, ok = l, e == api.OK
	case api.DataBag:
		made.Rows = plus(d.Rows, c.Rows, 1)
	case api.DataSet:
		made.Rows = plus(d.Rows, c.Rows, 1)
		ok = hasCounts(made.Rows, 1)
	case api.DataTuple:
		for i, part := range t.L {
			x, can := modelApply(part, d.L[i], c.L[i])
			made.L, ok = append(made.L, x), ok && can
		}
	case api.DataMap:
		return modelApplyMap(t, d, c)
	}
	return made, ok
}

func modelApplyMap(t api.DataType, d api.Data, c api.Change) (made api.Data, ok bool) {
	made.Kind = t.Kind
	for i, key := range d.Keys {
		k := find(c.Keys, keyed, key)
		switch {
		case k < 0:
			made.Keys, made.L = append(made.Keys, key), append(made.L, d.L[i])
		case c.Keys[k].Op == api.KeyPut, c.Keys[k].Op == api.KeyDrop && !sameData(c.Keys[k].Data, d.L[i]):
			return made, false
		case c.Keys[k].Op == api.KeyIn:
			x, can := modelApply(t.L[0], d.L[i], c.Keys[k].Change)
			if !can {
				return made, false
			}
			made.Keys, made.L = append(made.Keys, key), append(made.L, x)
		}
	}
	for _, x := range c.Keys {
		there := find(d.Keys, self, x.Key) >= 0
		if !there && x.Op != api.KeyPut {
			return made, false
		}
		if !there {
			made.Keys, made.L = append(made.Keys, x.Key), append(made.L, x.Data)
		}
	}
	return sorted(made), true
}

// modelDiff returns the change from a to b.
func modelDiff(t api.DataType, a, b api.Data) api.Change {
	c := api.Change{Kind: t.Kind}
	switch t.Kind {
	case api.DataValue:
		if !sameValue(a.V, b.V) {
			c.N, c.Old, c.New = 1, a.V, b.V
		}
	case api.DataCount:
		c.N = low(b.N - a.N)
	case api.DataText:
		c.Edit, _ = more(edit.Diff(words(a.S), words(b.S)))
	case api.DataList:
		c.Edit, _ = more(edit.Diff(a.List, b.List))
	case api.DataBag, api.DataSet:
		c.Rows = plus(b.Rows, a.Rows, -1)
	case api.DataTuple:
		for i, part := range t.L {
			c.L = append(c.L, modelDiff(part, a.L[i], b.L[i]))
		}
	case api.DataMap:
		for i, key := range a.Keys {
			if k := find(b.Keys, self, key); k >= 0 {
				c.Keys = append(c.Keys, isIn(key, modelDiff(t.L[0], a.L[i], b.L[k]))...)
			} else {
				c.Keys = append(c.Keys, api.KeyChange{Key: key, Op: api.KeyDrop, Data: a.L[i]})
			}
		}
		for i, key := range b.Keys {
			if find(a.Keys, self, key) < 0 {
				c.Keys = append(c.Keys, api.KeyChange{Key: key, Op: api.KeyPut, Data: b.L[i]})
			}
		}
	}
	return sortedKeys(c)
}

// modelBack returns the change back.
func modelBack(t api.DataType, c api.Change) api.Change {
	made := api.Change{Kind: t.Kind, N: low(-c.N), Old: c.New, New: c.Old, Rows: plus(nil, c.Rows, -1)}
	if t.Kind == api.DataValue {
		made.N = c.N
	}
	made.Edit, _ = more(edit.Invert(c.Edit))
	for i, x := range c.L {
		made.L = append(made.L, modelBack(t.L[i], x))
	}
	for _, x := range c.Keys {
		if x.Op == api.KeyIn {
			x.Change = modelBack(t.L[0], x.Change)
		} else {
			x.Op = api.KeyPut + api.KeyDrop - x.Op
		}
		made.Keys = append(made.Keys, x)
	}
	return made
}

// pairing is what is made of two changes, key by key, or part by part.
type pairing func(t api.DataType, a, b api.Change) (api.Change, bool)

// partwise returns what a pairing makes of the parts of two changes.
func partwise(t api.DataType, a, b api.Change, of pairing) (api.Change, bool) {
	c, ok := api.Change{Kind: t.Kind}, true
	for i, part := range t.L {
		x, can := of(part, a.L[i], b.L[i])
		c.L, ok = append(c.L, x), ok && can
	}
	return c, ok
}

// keywise returns what becomes of keys that one change alone has, and by of of those that both have.
func keywise(t api.DataType, a, b api.Change, of func(t api.DataType, x, y api.KeyChange) ([]api.KeyChange, bool)) (api.Change, bool) {
	c := api.Change{Kind: t.Kind}
	for _, x := range a.Keys {
		l := []api.KeyChange{x}
		if k := find(b.Keys, keyed, x.Key); k >= 0 {
			both, can := of(t, x, b.Keys[k])
			if !can {
				return c, false
			}
			l = both
		}
		c.Keys = append(c.Keys, l...)
	}
	for _, y := range b.Keys {
		if find(a.Keys, keyed, y.Key) < 0 {
			c.Keys = append(c.Keys, y)
		}
	}
	return sortedKeys(c), true
}

// modelCompose returns b behind a, as one, if that can be.
func modelCompose(t api.DataType, a, b api.Change) (api.Change, bool) {
	if nothing(a) {
		return b, true
	}
	if nothing(b) {
		return a, true
	}
	c, ok := api.Change{Kind: t.Kind}, true
	switch t.Kind {
	case api.DataValue:
		c = modelDiff(t, valued(a.Old), valued(b.New))
		ok = sameValue(a.New, b.Old)
	case api.DataCount:
		c.N = low(a.N + b.N)
	case api.DataText, api.DataList:
		c.Edit, ok = more(edit.Compose(a.Edit, b.Edit))
	case api.DataBag:
		c.Rows = plus(a.Rows, b.Rows, 1)
	case api.DataSet:
		c.Rows = plus(a.Rows, b.Rows, 1)
		ok = hasCounts(c.Rows, 1, -1)
	case api.DataTuple:
		return partwise(t, a, b, modelCompose)
	case api.DataMap:
		return keywise(t, a, b, modelComposeKey)
	}
	return c, ok
}

func modelComposeKey(t api.DataType, x, y api.KeyChange) ([]api.KeyChange, bool) {
	of, put := t.L[0], api.KeyPut
	switch {
	case x.Op == put && y.Op == api.KeyIn:
		d, ok := modelApply(of, x.Data, y.Change)
		return []api.KeyChange{{Key: x.Key, Data: d}}, ok
	case x.Op == put && y.Op == api.KeyDrop:
		return nil, sameData(x.Data, y.Data)
	case x.Op == api.KeyDrop && y.Op == put:
		return isIn(x.Key, modelDiff(of, x.Data, y.Data)), true
	case x.Op == api.KeyIn && y.Op == api.KeyDrop:
		d, ok := modelApply(of, y.Data, modelBack(of, x.Change))
		return []api.KeyChange{{Key: x.Key, Op: api.KeyDrop, Data: d}}, ok
	case x.Op == api.KeyIn && y.Op == api.KeyIn:
		c, ok := modelCompose(of, x.Change, y.Change)
		return isIn(x.Key, c), ok
	}
	return nil, false
}

// modelMerge returns a and b, brought together, if that can be.
func modelMerge(t api.DataType, a, b api.Change) (api.Change, bool) {
	if nothing(a) {
		return b, true
	}
	if nothing(b) {
		return a, true
	}
	c, ok := api.Change{Kind: t.Kind}, true
	switch t.Kind {
	case api.DataValue:
		return a, sameValue(a.Old, b.Old) && sameValue(a.New, b.New)
	case api.DataCount:
		c.N = low(a.N + b.N)
	case api.DataText, api.DataList:
		behind, _, e := edit.Cross(a.Edit, b.Edit)
		if e != api.OK {
			return c, false
		}
		c.Edit, ok = more(edit.Compose(a.Edit, behind))
	case api.DataBag:
		c.Rows = plus(a.Rows, b.Rows, 1)
	case api.DataSet:
		for _, x := range plus(a.Rows, plus(nil, b.Rows, 3), 1) { // 4 and -4 are of both, 2 and -2 against each other
			ok = ok && x.N != 2 && x.N != -2
			c.Rows = append(c.Rows, api.Item{Row: x.Row, N: max(-1, min(1, x.N))})
		}
	case api.DataTuple:
		return partwise(t, a, b, modelMerge)
	case api.DataMap:
		return keywise(t, a, b, modelMergeKey)
	}
	return c, ok
}

func modelMergeKey(t api.DataType, x, y api.KeyChange) ([]api.KeyChange, bool) {
	if x.Op != y.Op {
		return nil, false
	}
	if x.Op != api.KeyIn {
		return []api.KeyChange{x}, sameData(x.Data, y.Data)
	}
	c, ok := modelMerge(t.L[0], x.Change, y.Change)
	return isIn(x.Key, c), ok
}

// anyEdit returns an edit of a list, which need not be the least one, or none.
func anyEdit(r *rand.Rand, l []api.Value, value func() api.Value) (e []api.EditPiece) {
	var dropped, putted []api.Value
	for i := range len(l) + 1 {
		if r.Intn(3) == 0 {
			putted = append(putted, value())
		}
		if i < len(l) && r.Intn(3) == 0 {
			dropped = append(dropped, l[i])
			continue
		}
		if len(dropped) > 0 {
			e = append(e, api.EditPiece{Kind: api.EditDrop, L: dropped})
		}
		if len(putted) > 0 {
			e = append(e, api.EditPiece{Kind: api.EditPut, L: putted})
		}
		dropped, putted = nil, nil
		if i < len(l) && len(e) > 0 && e[len(e)-1].Kind == api.EditKeep {
			e[len(e)-1].N++
		} else if i < len(l) {
			e = append(e, api.EditPiece{Kind: api.EditKeep, N: 1})
		}
	}
	e, _ = more(e, api.OK)
	return e
}

// anyChange returns a change of a datum.
func anyChange(r *rand.Rand, t api.DataType, d api.Data) api.Change {
	c := api.Change{Kind: t.Kind}
	switch t.Kind {
	case api.DataText:
		c.Edit = anyEdit(r, words(d.S), func() api.Value { return num('a' + r.Intn(2)) })
	case api.DataList:
		c.Edit = anyEdit(r, d.List, func() api.Value { return anyValue(r, t.T) })
	case api.DataTuple:
		for i, part := range t.L {
			c.L = append(c.L, anyChange(r, part, d.L[i]))
		}
	case api.DataMap:
		for _, x := range modelDiff(t, d, anyData(r, t)).Keys {
			i := find(d.Keys, self, x.Key)
			if i >= 0 && r.Intn(2) == 0 {
				c.Keys = append(c.Keys, isIn(x.Key, anyChange(r, t.L[0], d.L[i]))...)
			} else {
				c.Keys = append(c.Keys, x)
			}
		}
	default:
		return modelDiff(t, d, anyData(r, t))
	}
	return c
}
