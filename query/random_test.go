package query_test

import (
	"slices"
	"testing"

	"deltaworks/api"
	"deltaworks/query"
)

// TestAsDefined: P6.1 to P6.3: of programs of all kinds types, blocks, relations and answers are what the chapter defines.
func TestAsDefined(t *testing.T) {
	rows, blocks := 0, 0
	anyTimes(1, 4000, func(m *maker) {
		p := m.valid(1 + m.r.Intn(6))
		types, err := query.Types(p)
		areTypes(t, types, err, m.types, api.OK)
		want, err := model{p}.verdict()
		areTypes(t, want, err, m.types, api.OK)
		l := m.anyIns()
		rels, err := query.Eval(p, l)
		meant, _ := model{p}.meaning(l)
		areRels(t, rels, err, meant, api.OK)
		var outs []api.Zset
		for _, rel := range p.Outs {
			outs = append(outs, meant[rel])
		}
		answers, err := query.Answers(p, l)
		areRels(t, answers, err, outs, api.OK)
		areBlocks(t, p, model{p}.blocks())
		for _, b := range (model{p}).blocks() {
			blocks++
			for _, rel := range b {
				rows += len(meant[rel])
			}
		}
		if t.Failed() {
			t.Fatalf("%+v of %s", p, told(l))
		}
	})
	if blocks < 3000 || rows < 5000 {
		t.Error(blocks, rows)
	}
}

// blocks returns the relations of each block.
func (m model) blocks() (l [][]int) {
	for rel := len(m.Inputs); rel < m.rels(); rel++ {
		if m.view(rel).Op != api.ViewRules {
			continue
		}
		if first, _ := m.block(rel); first == rel {
			l = append(l, nil)
		}
		l[len(l)-1] = append(l[len(l)-1], rel)
	}
	return l
}

// areBlocks fails unless a program has these blocks.
func areBlocks(t *testing.T, p api.Prog, want [][]int) {
	t.Helper()
	got, err := query.Blocks(p)
	if err != api.OK || !slices.EqualFunc(got, want, slices.Equal) {
		t.Errorf("%v, %d, not %v", got, err, want)
	}
}
