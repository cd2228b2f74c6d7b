package change

import (
	"deltaworks/api"
	"deltaworks/lists"
	"deltaworks/refuse"
	"deltaworks/value"
)

// kind is a type of data as its kind knows it. Data and changes that it is given are of the type, but for those that is and fits are asked about; what must be so, and is not, it refuses with ErrState. What it makes can be too great, and need not have its Kind.
type kind interface {
	is(d api.Data) bool
	fits(c api.Change) bool
	empty() api.Data
	apply(d api.Data, c api.Change) api.Data
	diff(a, b api.Data) api.Change
	invert(c api.Change) api.Change
	compose(a, b api.Change) api.Change
	merge(a, b api.Change) api.Change
}

// maker is what makes the kind of a type.
type maker struct{ of func(looked) kind }

func makers() [8]maker {
	return [...]maker{
		api.DataValue: {func(l looked) kind { return single{l} }},
		api.DataCount: {func(looked) kind { return count{} }},
		api.DataText:  {func(looked) kind { return text{list{isChar}} }},
		api.DataList:  {func(l looked) kind { return list{l.has} }},
		api.DataBag:   {func(l looked) kind { return bag{l} }},
		api.DataSet:   {func(l looked) kind { return set{bag{l}} }},
		api.DataTuple: {func(l looked) kind { return tuple{lists.Changed(l.L, look)} }},
		api.DataMap:   {func(l looked) kind { return mapping{l, look(l.L[0])} }},
	}
}

// single is a type of data that are values.
type single struct{ of looked }

func (k single) is(d api.Data) bool {
	v := d.V
	d.V = api.Value{}
	return blankData(d) && k.of.has(v)
}

func (k single) fits(c api.Change) bool {
	if blankChange(c) {
		return true
	}
	from, to, n := c.Old, c.New, c.N
	c.Old, c.New, c.N = api.Value{}, api.Value{}, 0
	return blankChange(c) && n == 1 && k.of.has(from) && k.of.has(to) && !sameValue(from, to)
}

func (k single) empty() api.Data { return api.Data{V: refuse.Got(value.Least(k.of.T))} }

func (k single) apply(d api.Data, c api.Change) api.Data {
	refuse.Unless(sameValue(d.V, c.Old), api.ErrState)
	d.V = c.New
	return d
}

func (k single) diff(a, b api.Data) api.Change { return becoming(a.V, b.V) }

func (k single) invert(c api.Change) api.Change { return becoming(c.New, c.Old) }

func (k single) compose(a, b api.Change) api.Change {
	refuse.Unless(sameValue(a.New, b.Old), api.ErrState)
	return becoming(a.Old, b.New)
}

func (k single) merge(a, b api.Change) api.Change {
	refuse.Unless(sameValue(a.Old, b.Old) && sameValue(a.New, b.New), api.ErrState)
	return a
}

// becoming is the change by which one value becomes another one, or stays what it is.
func becoming(from, to api.Value) api.Change {
	if sameValue(from, to) {
		return api.Change{}
	}
	return api.Change{N: 1, Old: from, New: to}
}

// count is the type of data that are counts.
type count struct{}

// word returns what 32 bits keep of a number.
func word(n int) int { return int(int32(n)) }

func (count) is(d api.Data) bool {
	n := d.N
	d.N = 0
	return blankData(d) && n == word(n)
}

func (count) fits(c api.Change) bool {
	n := c.N
	c.N = 0
	return blankChange(c) && n == word(n)
}

func (count) empty() api.Data { return api.Data{} }

func (count) apply(d api.Data, c api.Change) api.Data {
	d.N = word(d.N + c.N)
	return d
}

func (count) diff(a, b api.Data) api.Change { return api.Change{N: word(b.N - a.N)} }

func (count) invert(c api.Change) api.Change { return api.Change{N: word(-c.N)} }

func (count) compose(a, b api.Change) api.Change { return api.Change{N: word(a.N + b.N)} }

func (k count) merge(a, b api.Change) api.Change { return k.compose(a, b) }
