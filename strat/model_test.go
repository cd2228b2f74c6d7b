package strat_test

import (
	"slices"

	"deltaworks/api"
)

// model is what loose rules say, as the chapter has it: of each relation which ones it uses, denies and leads to.
type model struct {
	rels                int
	uses, denies, leads [][]bool
}

func table(n int) [][]bool {
	t := make([][]bool, n)
	for i := range t {
		t[i] = make([]bool, n)
	}
	return t
}

func modelOf(rels int, rules []api.StratRule) model {
	m := model{rels, table(rels), table(rels), table(rels)}
	for _, r := range rules {
		for _, a := range r.Rule.Body {
			m.uses[r.Head][a.Rel] = true
			if a.Not {
				m.denies[r.Head][a.Rel] = true
			}
		}
	}
	for again := true; again; {
		again = false
		for a := range rels {
			for b := range rels {
				for c := range rels {
					if !m.leads[a][b] && (m.uses[a][b] || m.uses[a][c] && m.leads[c][b]) {
						m.leads[a][b], again = true, true
					}
				}
			}
		}
	}
	return m
}

// want returns what functions make of the rules; by walks the reason is found by another road, for many relations.
func (m model) want(byWalks bool) results {
	reason := m.reason
	if byWalks {
		reason = m.reasonByWalks
	}
	cycle := reason()
	if m.isInOrder() != (cycle == nil) {
		panic("neither in order nor for a reason, or both")
	}
	if cycle != nil {
		return clashing(cycle...)
	}
	return ordered(m.blocks(), m.levels()...)
}

// block returns the block of a relation.
func (m model) block(a int) (l []int) {
	for b := range m.rels {
		if a == b || m.leads[a][b] && m.leads[b][a] {
			l = append(l, b)
		}
	}
	return l
}

func (m model) isInOrder() bool {
	for a := range m.rels {
		for _, b := range m.block(a) {
			if m.denies[a][b] {
				return false
			}
		}
	}
	return true
}

func (m model) blocks() (l [][]int) {
	placed := map[int]bool{}
	for len(placed) < m.rels {
		for a := range m.rels {
			block := m.block(a)
			if placed[a] || !m.comesBehind(block, placed) {
				continue
			}
			for _, b := range block {
				placed[b] = true
			}
			l = append(l, block)
			break
		}
	}
	return l
}

// comesBehind reports whether a block can come directly behind some relations.
func (m model) comesBehind(block []int, placed map[int]bool) bool {
	for _, a := range block {
		for b := range m.rels {
			if m.uses[a][b] && !placed[b] && !slices.Contains(block, b) {
				return false
			}
		}
	}
	return true
}

// isCycle reports whether relations are a cycle of denial.
func (m model) isCycle(l []int) bool {
	for i, a := range l {
		if !m.uses[a][l[(i+1)%len(l)]] || slices.Contains(l[:i], a) {
			return false
		}
	}
	return m.denies[l[0]][l[1%len(l)]]
}

// reason returns the first one of all lists, by their length and then by their order, that is a cycle of denial.
func (m model) reason() []int {
	var first func(l []int, n int) []int
	first = func(l []int, n int) []int {
		if len(l) == n {
			if m.isCycle(l) {
				return l
			}
			return nil
		}
		for a := range m.rels {
			if len(l) > 0 && !m.uses[l[len(l)-1]][a] {
				continue
			}
			if found := first(append(l[:len(l):len(l)], a), n); found != nil {
				return found
			}
		}
		return nil
	}
	for n := range m.rels {
		if found := first(nil, n+1); found != nil {
			return found
		}
	}
	return nil
}

// reasonByWalks returns the same: a shortest walk along uses, from where it begins with a denial back to there, does not meet a relation twice.
func (m model) reasonByWalks() []int {
	walks := [][][]bool{table(m.rels)} // of each number of uses: from which relation to which one there is a walk
	for a := range m.rels {
		walks[0][a][a] = true
	}
	for n := 1; n <= m.rels; n++ {
		for a := range m.rels {
			for b := range m.rels {
				if m.denies[a][b] && walks[n-1][b][a] {
					l := []int{a, b}[:min(n, 2)]
					for len(l) < n {
						c := 0
						for !m.uses[l[len(l)-1]][c] || !walks[n-len(l)][c][a] {
							c++
						}
						l = append(l, c)
					}
					return l
				}
			}
		}
		next := table(m.rels)
		for a := range m.rels {
			for b := range m.rels {
				for c := range m.rels {
					next[a][b] = next[a][b] || m.uses[a][c] && walks[n-1][c][b]
				}
			}
		}
		walks = append(walks, next)
	}
	return nil
}

// levels returns the levels, of rules that are in order: they rise as long as they must.
func (m model) levels() []int {
	l := make([]int, m.rels)
	for again := true; again; {
		again = false
		for a := range m.rels {
			for b := range m.rels {
				if m.uses[a][b] && l[a] < l[b] || m.denies[a][b] && l[a] <= l[b] {
					l[a]++
					again = true
				}
			}
		}
	}
	return l
}

func (m model) reach(from []int) (l []int) {
	for a := range m.rels {
		if slices.ContainsFunc(from, func(b int) bool { return a == b || m.leads[a][b] }) {
			l = append(l, a)
		}
	}
	return l
}
