package query

import (
	"deltaworks/api"
	"deltaworks/lists"
	"deltaworks/types"
)

// view is a view of a program, and which relation it is.
type view struct {
	*program
	api.View
	rel int
}

// kind is that of a view whose operation there is.
func (v view) kind() kind { return operations()[v.Op].kind }

// isFormed reports whether a view is formed.
func (v view) isFormed() bool {
	ops := operations()
	if !isFrom(v.Op, 0, len(ops)-1) {
		return false
	}
	op := ops[v.Op]
	return (op.most == 0 || isFrom(len(v.From), op.least, op.most) && lists.All(v.From, before(v.rel))) &&
		op.formed(v) && v.isRead(op.reads(v))
}

// isRead reports whether a view has as many expressions as it must have, all of them formed. If it must have none, they are not looked at.
func (v view) isRead(reads [][]int) bool {
	if len(reads) == 0 {
		return true
	}
	if len(reads) != len(v.F) {
		return false
	}
	for i, from := range reads {
		if !v.isExp(v.F[i], len(from)) {
			return false
		}
	}
	return true
}

// formulas are the expressions of a view that is formed, each with the rows that it reads as variables.
func (v view) formulas() []formula {
	var made []formula
	for i, from := range v.kind().reads(v) {
		rows := lists.Changed(from, func(at int) api.Type { return v.typeOf(v.From[at]) })
		made = append(made, v.formula(v.F[i], rows))
	}
	return made
}

// made returns the types of what the expressions of a view make.
func (v view) made() []api.Type { return lists.Changed(v.formulas(), formula.typ) }

// one returns the one row type of all relations of which a view is made.
func (v view) one() api.Type { return types.NeedOne(lists.Changed(v.From, v.typeOf)...) }

// from returns the collections of which a view is made.
func (v view) from(rels []api.Zset) []api.Zset {
	return lists.Changed(v.From, func(rel int) api.Zset { return rels[rel] })
}

// block returns the relations of the block of a view; one that is not made by rules is alone.
func (v view) block() []int {
	first, end := v.rel, v.rel+1
	for first > len(v.Inputs) && v.isBeside(first-1) {
		first--
	}
	for end < v.size() && v.isBeside(end) {
		end++
	}
	block := make([]int, end-first)
	for i := range block {
		block[i] = first + i
	}
	return block
}

// isBeside reports whether a relation, next to those of the block of a view, is one of them, too.
func (v view) isBeside(rel int) bool {
	x := v.view(rel)
	return v.Op == api.ViewRules && x.Op == api.ViewRules && x.N == v.N
}
