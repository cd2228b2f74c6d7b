package query

import (
	"slices"

	"deltaworks/api"
	"deltaworks/lists"
	"deltaworks/refuse"
)

// row is a row of a relation: the numbers of its parts, and 0 behind them.
type row [api.Wide]int

// everywhere are all places of a row, as bits.
const everywhere = 1<<api.Wide - 1

// at returns what a row has at some places, and 0 elsewhere.
func (r row) at(places int) row {
	for i := range r {
		if places>>i&1 == 0 {
			r[i] = 0
		}
	}
	return r
}

// look is how rows are looked for: in a relation, by what they have at some places.
type look struct {
	rel, places int
	parts       row
}

// facts are the rows that relations have.
type facts struct {
	values *groups[struct{}] // what the numbers of parts stand for
	rows   [][]row           // of each relation
	places [][]int           // at which places rows of each relation were looked for
	found  map[look][]row    // for all of these places
}

func newFacts(rels int) *facts {
	return &facts{newGroups[struct{}](), make([][]row, rels), make([][]int, rels), map[look][]row{}}
}

// having returns the rows that are looked for. At places that are new all rows are put in order first.
func (f *facts) having(l look) []row {
	if !slices.Contains(f.places[l.rel], l.places) {
		f.places[l.rel] = append(f.places[l.rel], l.places)
		for _, r := range f.rows[l.rel] {
			f.lay(l.rel, l.places, r)
		}
	}
	return f.found[l]
}

// lay puts a row where it is found at some places.
func (f *facts) lay(rel, places int, r row) {
	l := look{rel, places, r.at(places)}
	f.found[l] = append(f.found[l], r)
}

func (f *facts) has(rel int, r row) bool { return len(f.having(look{rel, everywhere, r})) > 0 }

// add puts a row into a relation that does not have it.
func (f *facts) add(rel int, r row) {
	refuse.Unless(len(f.rows[rel]) < api.RowsMost, api.ErrFull)
	f.rows[rel] = append(f.rows[rel], r)
	for _, places := range f.places[rel] {
		f.lay(rel, places, r)
	}
}

// load puts the rows into a relation that a collection of tuples has.
func (f *facts) load(rel int, z api.Zset) {
	for _, item := range z {
		if item.N > 0 {
			var r row
			for i, part := range item.Row.L {
				r[i] = f.values.place(part)
			}
			f.add(rel, r)
		}
	}
}

// items returns the rows of a relation, each once; they have so many parts.
func (f *facts) items(rel, parts int) []api.Item {
	return lists.Changed(f.rows[rel], func(r row) api.Item {
		return api.Item{Row: api.Value{Kind: api.ValueTuple, L: lists.Changed(r[:parts], f.value)}, N: 1}
	})
}

func (f *facts) value(number int) api.Value { return f.values.all[number].value }
