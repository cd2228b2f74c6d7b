package change

import (
	"deltaworks/api"
	"deltaworks/refuse"
	"deltaworks/value"
	"deltaworks/zset"
)

// needs is what a type of data must have: a type of values, and how many types of data.
type needs struct {
	values      bool
	least, most int
}

var needed = [...]needs{
	api.DataValue: {values: true},
	api.DataCount: {},
	api.DataText:  {},
	api.DataList:  {values: true},
	api.DataBag:   {values: true},
	api.DataSet:   {values: true},
	api.DataTuple: {most: api.Wide},
	api.DataMap:   {values: true, least: 1, most: 1},
}

// right reports whether a type of data is valid, as far as the types within it do not matter.
func right(t api.DataType) bool {
	if t.Kind < 0 || t.Kind >= len(needed) {
		return false
	}
	n := needed[t.Kind]
	return len(t.L) >= n.least && len(t.L) <= n.most && (!n.values || value.Type(t.T) == api.OK)
}

// looked is a valid type of data that is looked at.
type looked struct{ api.DataType }

func look(t api.DataType) looked { return looked{t} }

// valid returns a type of data as it is looked at; it is refused unless it is valid. Each type is looked at ahead of those within it, so that the walk ends: a type may hold itself.
func valid(t api.DataType) looked {
	count := 0
	var walk func(t api.DataType, deep int)
	walk = func(t api.DataType, deep int) {
		count++
		refuse.Unless(count <= api.DataTypes && deep <= api.DataDeep && right(t), api.ErrArg)
		for _, part := range t.L {
			walk(part, deep+1)
		}
	}
	walk(t, 1)
	return look(t)
}

func (l looked) kind() kind { return makers()[l.Kind].of(l) }

// has reports whether a value is of the type of values.
func (l looked) has(v api.Value) bool { return value.Is(v, l.T) }

// rows reports whether a collection is one of few rows of the type of values.
func (l looked) rows(z api.Zset) bool {
	return len(z) <= api.DataMost && zset.Typed(z, l.T) == api.OK
}

// is reports whether a datum is one of the type. What a kind is given has no Kind, so that all that it does not take must be empty.
func (l looked) is(d api.Data) bool {
	if d.Kind != l.Kind || size(d) > api.DataMost {
		return false
	}
	d.Kind = 0
	return l.kind().is(d)
}

// fits reports whether a change is one of the type.
func (l looked) fits(c api.Change) bool {
	if c.Kind != l.Kind {
		return false
	}
	c.Kind = 0
	return l.kind().fits(c)
}

func (l looked) empty() api.Data {
	d := l.kind().empty()
	d.Kind = l.Kind
	return d
}

// apply returns a datum with a change applied, of whatever size.
func (l looked) apply(d api.Data, c api.Change) api.Data {
	if idle(c) {
		return d
	}
	return l.kind().apply(d, c)
}

func (l looked) diff(a, b api.Data) api.Change { return l.named(l.kind().diff(a, b)) }

func (l looked) invert(c api.Change) api.Change { return l.named(l.kind().invert(c)) }

func (l looked) compose(a, b api.Change) api.Change { return l.joined(a, b, kind.compose) }

func (l looked) merge(a, b api.Change) api.Change { return l.joined(a, b, kind.merge) }

// joined returns what of makes of two changes; where one of them changes nothing it is the other one.
func (l looked) joined(a, b api.Change, of func(k kind, a, b api.Change) api.Change) api.Change {
	switch {
	case idle(a):
		return b
	case idle(b):
		return a
	}
	return l.named(of(l.kind(), a, b))
}

// named returns what a kind made of changes as a change of that kind.
func (l looked) named(c api.Change) api.Change {
	c.Kind = l.Kind
	return c
}

func (l looked) needData(data ...api.Data) {
	for _, d := range data {
		refuse.Unless(l.is(d), api.ErrArg)
	}
}

func (l looked) needChanges(changes ...api.Change) {
	for _, c := range changes {
		refuse.Unless(l.fits(c), api.ErrArg)
	}
}

// madeData returns a new copy of what was made of data and changes of the type, which may have become too great.
func (l looked) madeData(d api.Data) api.Data {
	refuse.Unless(l.is(d), api.ErrFull)
	renewData(&d)
	return d
}

func (l looked) madeChange(c api.Change) api.Change {
	refuse.Unless(l.fits(c), api.ErrFull)
	renewChange(&c)
	return c
}
