package strat_test

import (
	"fmt"
	"math/rand"
	"slices"
	"testing"

	"deltaworks/api"
	"deltaworks/query"
	"deltaworks/strat"
	"deltaworks/zset"
)

// must returns what is returned without an error.
func must[T any](x T, e api.Errno) T {
	if e != api.OK {
		panic(fmt.Sprint("error ", e))
	}
	return x
}

func gathered(l []api.Item) api.Zset { return must(zset.Make(l)) }

// TestAnyProg: P8.5: of any loose rules of types the program is the one that the chapter tells, or the error.
func TestAnyProg(t *testing.T) {
	found := map[api.Errno]int{}
	anyTimes(1, 6000, func(r *rand.Rand, x given) {
		y := x.want()
		found[y.E]++
		x.makes(t, y)
		alter(r, &x)
		y = x.want()
		found[y.E]++
		x.makes(t, y)
	})
	for _, e := range []api.Errno{api.OK, api.ErrArg, api.ErrRange, api.ErrLong, api.ErrType, api.ErrClash} {
		if found[e] < 30 {
			t.Error(found)
		}
	}
}

// alter changes something, so that most of it is refused.
func alter(r *rand.Rand, x *given) {
	if len(x.Rules) == 0 {
		x.Inputs = nil
		return
	}
	rels := len(x.Inputs) + len(x.Others)
	one := &x.Rules[r.Intn(len(x.Rules))]
	body := one.Rule.Body
	switch n := r.Intn(8); {
	case n == 0:
		one.Head = pick(r, -1, 0, rels-1, rels)
	case n == 1:
		x.Inputs = append(x.Inputs, times(9, pair)[r.Intn(9):]...)
	case n == 2:
		x.Rules = append(x.Rules, times(r.Intn(60), *one)...)
	case n == 3:
		x.Others[r.Intn(len(x.Others))] = pick(r, integer, pair, tuples(times(9, integer)...))
	case n == 4:
		one.Rule.Head = append(one.Rule.Head, is(num(0)))
	case len(body) == 0:
		one.Rule.Body = append(body, api.Atom{Rel: one.Head, Not: true})
	case n == 5:
		body[r.Intn(len(body))].Rel = r.Intn(rels+2) - 1
	case n == 6:
		one.Rule.Body = times(7, body[0])[r.Intn(7):]
	default:
		one.Rule.Body = append(body, api.Atom{Rel: r.Intn(rels), Not: true})
	}
}

// TestProgBlocks: P8.5: the blocks of the program are those of the loose rules, without those of inputs, and its types those that are given.
func TestProgBlocks(t *testing.T) {
	anyTimes(2, 1500, func(_ *rand.Rand, x given) {
		y := x.prog()
		if y.E != api.OK {
			return
		}
		blocks := must(strat.Blocks(len(y.Places), x.Rules))
		var want [][]int
		for _, block := range blocks[len(x.Inputs):] {
			want = append(want, of(y.Places, block))
		}
		if got := must(query.Blocks(y.P)); fmt.Sprint(got) != fmt.Sprint(want) {
			t.Fatal(x, got, want)
		}
		kinds := must(query.Types(y.P))
		for a, u := range slices.Concat(x.Inputs, x.Others) {
			if !sameType(kinds[y.Places[a]], u) {
				t.Fatal(x, kinds)
			}
		}
	})
}

// TestNotReached: P8.7: what a change does not reach is the same behind it.
func TestNotReached(t *testing.T) {
	same, other := 0, 0
	anyTimes(3, 1500, func(r *rand.Rand, x given) {
		y := x.prog()
		if y.E != api.OK {
			return
		}
		m := maker{r: r}
		ins, change := m.anyIns(x), m.anyIns(x)
		var from []int
		for a := range change {
			if r.Intn(2) == 0 {
				change[a] = nil
			} else {
				from = append(from, a)
			}
		}
		before, e := query.Eval(y.P, ins)
		behind, f := query.Eval(y.P, must(query.Apply(y.P, ins, change)))
		if e != api.OK || f != api.OK {
			t.Fatal(x, e, f)
		}
		reached := must(strat.Reach(len(y.Places), x.Rules, from))
		for a, place := range y.Places {
			switch {
			case slices.Contains(reached, a):
				other++
			case fmt.Sprint(before[place]) != fmt.Sprint(behind[place]):
				t.Fatal(x, from, reached, a)
			default:
				same++
			}
		}
	})
	if same < 1000 || other < 1000 {
		t.Error(same, other)
	}
}

// TestOtherOrderOfProg: P8.7 and W4: rules in another order, and relations with other numbers, make the same relations.
func TestOtherOrderOfProg(t *testing.T) {
	anyTimes(4, 1500, func(r *rand.Rand, x given) {
		y := x.prog()
		if y.E != api.OK {
			return
		}
		names := ints(0, len(y.Places))
		for i, k := range r.Perm(len(x.Others)) {
			names[len(x.Inputs)+i] = len(x.Inputs) + k
		}
		other := given{Inputs: x.Inputs, Others: slices.Clone(x.Others), Rules: renamed(r, x.Rules, names)}
		for a, u := range x.Others {
			other.Others[names[len(x.Inputs)+a]-len(x.Inputs)] = u
		}
		z := other.prog()
		ins := maker{r: r}.anyIns(x)
		one, two := must(query.Eval(y.P, ins)), must(query.Eval(z.P, ins))
		for a, place := range y.Places {
			if fmt.Sprint(one[place]) != fmt.Sprint(two[z.Places[names[a]]]) {
				t.Fatal(x, other, a)
			}
		}
	})
}
