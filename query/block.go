package query

import (
	"deltaworks/api"
	"deltaworks/lists"
	"deltaworks/zset"
)

// block is a block whose rows are made.
type block struct {
	*facts
	first   int // its first relation
	clauses []clause
	fresh   []fact // rows that are made, from which others may follow
}

// fact is a row of a relation.
type fact struct {
	rel int
	row row
}

func (rules) rows(v view, rels []api.Zset) []api.Zset {
	b := &block{facts: newFacts(v.size()), first: v.rel}
	for _, rel := range v.block() {
		b.read(v.view(rel), rels)
	}
	b.run()
	return lists.Changed(v.block(), func(rel int) api.Zset {
		return alone(zset.Make(b.items(rel, len(v.view(rel).T.L))))[0]
	})
}

// read takes the rules of a view, and the relations ahead of its block that they name.
func (b *block) read(v view, rels []api.Zset) {
	for _, r := range v.Rules {
		b.clauses = append(b.clauses, v.clause(r, b.values))
		for _, a := range r.Body {
			if a.Rel < b.first && len(b.rows[a.Rel]) == 0 {
				b.load(a.Rel, rels[a.Rel])
			}
		}
	}
}

// run makes all rows. What a rule makes of rows of the block is made when the last one of them is looked at, as all others are there then.
func (b *block) run() {
	for _, c := range b.clauses {
		if !c.names(b.first) {
			b.derive(c, c.all(), binding{})
		}
	}
	for len(b.fresh) > 0 {
		last := len(b.fresh) - 1
		x := b.fresh[last]
		b.fresh = b.fresh[:last]
		b.follow(x)
	}
}

// follow makes what follows from a row, and others that are there.
func (b *block) follow(x fact) {
	for _, c := range b.clauses {
		for i, a := range c.body {
			if a.rel != x.rel {
				continue
			}
			if start, can := (binding{}).with(a.args, x.row); can {
				b.derive(c, c.all()&^(1<<i), start)
			}
		}
	}
}

// derive makes the rows of the head of a clause for the bindings in which the atoms hold that are left.
func (b *block) derive(c clause, rest int, start binding) {
	for now := range b.solutions(c, rest, start) {
		r, _ := now.row(c.head)
		if !b.has(c.rel, r) && b.passes(c, now) {
			b.add(c.rel, r)
			b.fresh = append(b.fresh, fact{c.rel, r})
		}
	}
}

// passes reports whether all tests of a clause are passed by what its variables stand for.
func (b *block) passes(c clause, now binding) bool {
	return lists.All(c.tests, func(f formula) bool {
		return f.of(lists.Changed(now.numbers[:len(f.vars)], b.value)...).N != 0
	})
}
