package strat_test

import (
	"reflect"
	"slices"
	"strconv"
	"strings"
	"testing"

	"deltaworks/api"
	"deltaworks/strat"
)

// loose returns the loose rules of a text: of each rule its Head, and which relations its atoms name, with ! in front those with Not.
func loose(s string) (l []api.StratRule) {
	for part := range strings.SplitSeq(s, ";") {
		words := strings.Fields(part)
		if len(words) == 0 {
			continue
		}
		r := api.StratRule{Head: number(strings.TrimSuffix(words[0], ":"))}
		for _, w := range words[1:] {
			name, not := strings.CutPrefix(w, "!")
			r.Rule.Body = append(r.Rule.Body, api.Atom{Rel: number(name), Not: not})
		}
		l = append(l, r)
	}
	return l
}

func number(s string) int {
	n, err := strconv.Atoi(s)
	if err != nil {
		panic(err)
	}
	return n
}

// tied returns a loose rule of one atom.
func tied(head, rel int, not bool) api.StratRule {
	return api.StratRule{Head: head, Rule: api.Rule{Body: []api.Atom{{Rel: rel, Not: not}}}}
}

// told returns loose rules as a text that loose reads.
func told(l []api.StratRule) string {
	var b strings.Builder
	for _, r := range l {
		b.WriteString(strconv.Itoa(r.Head) + ":")
		for _, a := range r.Rule.Body {
			b.WriteString(map[bool]string{false: " ", true: " !"}[a.Not] + strconv.Itoa(a.Rel))
		}
		b.WriteString("; ")
	}
	return b.String()
}

// rulesR and rulesS are the rules R and S of the chapter.
const rulesR = "1: 2 0; 2: 1; 3: 0 !2; 4: 4 3"
const rulesS = rulesR + "; 2: !3"

// times returns a list of n times x.
func times[T any](n int, x T) []T { return slices.Repeat([]T{x}, n) }

// ints returns numbers from one on, up to another one, without it.
func ints(from, end int) (l []int) {
	for n := from; n < end; n++ {
		l = append(l, n)
	}
	return l
}

// results are what functions make of loose rules.
type results struct {
	Blocks         [][]int
	Reason, Levels []int
	Errs           [3]api.Errno // of Blocks, Reason, Levels
}

func all(rels int, rules []api.StratRule) (x results) {
	x.Blocks, x.Errs[0] = strat.Blocks(rels, rules)
	x.Reason, x.Errs[1] = strat.Reason(rels, rules)
	x.Levels, x.Errs[2] = strat.Levels(rels, rules)
	return x
}

// ordered, clashing and refused are results of rules that are in order, that are not, and that are not valid.
func ordered(blocks [][]int, levels ...int) results {
	return results{Blocks: blocks, Levels: levels, Errs: [3]api.Errno{api.OK, api.ErrNone, api.OK}}
}

func clashing(reason ...int) results {
	return results{Reason: reason, Errs: [3]api.Errno{api.ErrClash, api.OK, api.ErrClash}}
}

func refused(e api.Errno) results { return results{Errs: [3]api.Errno{e, e, e}} }

// are fails unless that is what functions make of rules.
func are(t *testing.T, rels int, rules []api.StratRule, want results) {
	t.Helper()
	if got := all(rels, rules); !reflect.DeepEqual(got, want) {
		t.Fatalf("%d, %s\n%v, not %v", rels, told(rules), got, want)
	}
}

// reaches fails unless Reach returns that, of some relations.
func reaches(t *testing.T, rels int, rules []api.StratRule, from, want []int, e api.Errno) {
	t.Helper()
	if got, err := strat.Reach(rels, rules, from); err != e || !reflect.DeepEqual(got, want) {
		t.Fatalf("%d, %s from %v\n%v, %d, not %v, %d", rels, told(rules), from, got, err, want, e)
	}
}
