package change_test

import (
	"math/rand"
	"testing"

	"deltaworks/api"
	"deltaworks/change"
)

// TestDifferenceLeads: P4.9: the difference of two data leads from one to the other, its way back leads back; that of a datum and itself changes nothing.
func TestDifferenceLeads(t *testing.T) {
	anyTimes(12, func(r *rand.Rand, x api.DataType) {
		a, b := anyData(r, x), anyData(r, x)
		c := must(change.Diff(x, a, b))
		d, e := change.Apply(x, a, c)
		isData(t, d, e, b, api.OK)
		d, e = change.Apply(x, b, must(change.Invert(x, c)))
		isData(t, d, e, a, api.OK)
		if nothing(c) != sameData(a, b) || !nothing(must(change.Diff(x, a, a))) {
			t.Fatalf("%v, %v", a, b)
		}
		if is, e := change.Fits(x, c); !is || e != api.OK {
			t.Fatalf("%v, %v", a, b)
		}
	})
}

// TestOneAfterTheOther: P4.9: two changes one after the other are one, and so are three, however they are put together.
func TestOneAfterTheOther(t *testing.T) {
	anyTimes(13, func(r *rand.Rand, x api.DataType) {
		d := anyData(r, x)
		a := anyChange(r, x, d)
		one := must(change.Apply(x, d, a))
		b := anyChange(r, x, one)
		two := must(change.Apply(x, one, b))
		c := anyChange(r, x, two)
		three := must(change.Apply(x, two, c))
		ab, bc := must(change.Compose(x, a, b)), must(change.Compose(x, b, c))
		got, e := change.Apply(x, d, ab)
		isData(t, got, e, two, api.OK)
		got, e = change.Apply(x, d, must(change.Compose(x, ab, c)))
		isData(t, got, e, three, api.OK)
		got, e = change.Apply(x, d, must(change.Compose(x, a, bc)))
		isData(t, got, e, three, api.OK)
	})
}

// TestBack: P4.9: the change back leads back, and its change back is the change itself.
func TestBack(t *testing.T) {
	anyTimes(14, func(r *rand.Rand, x api.DataType) {
		d := anyData(r, x)
		c := anyChange(r, x, d)
		back := must(change.Invert(x, c))
		again, e := change.Invert(x, back)
		isChange(t, again, e, c, api.OK)
		old, e := change.Apply(x, must(change.Apply(x, d, c)), back)
		isData(t, old, e, d, api.OK)
		both := must(change.Compose(x, c, back))
		old, e = change.Apply(x, d, both)
		isData(t, old, e, d, api.OK)
		if smooth(x) && !nothing(both) {
			t.Fatalf("%v: %v", c, both)
		}
	})
}

// TestEitherFirst: P4.9: without texts and lists two changes of a datum that are brought together do the same, whichever comes first.
func TestEitherFirst(t *testing.T) {
	together := 0
	anyTimes(15, func(r *rand.Rand, x api.DataType) {
		d := anyData(r, x)
		a, b := anyChange(r, x, d), anyChange(r, x, d)
		ab, e := change.Merge(x, a, b)
		ba, f := change.Merge(x, b, a)
		if e != f {
			t.Fatalf("%v, %v: %d, %d", a, b, e, f)
		}
		if e != api.OK {
			return
		}
		one, e := change.Apply(x, d, ab)
		two, f := change.Apply(x, d, ba)
		if e != api.OK || f != api.OK || smooth(x) && !sameData(one, two) {
			t.Fatalf("%v, %v: %d, %d", a, b, e, f)
		}
		together++
	})
	if together < 500 {
		t.Errorf("only %d were brought together", together)
	}
}

// universe returns all data of a type, of few values, of which no change of one leads out.
func universe(t api.DataType) (l []api.Data) {
	switch t.Kind {
	case api.DataValue:
		return []api.Data{valued(num(1)), valued(num(2))}
	case api.DataSet:
		return []api.Data{setted(), setted(num(1)), setted(num(2)), setted(num(1), num(2))}
	case api.DataTuple:
		for _, a := range universe(t.L[0]) {
			for _, b := range universe(t.L[1]) {
				l = append(l, tupled(a, b))
			}
		}
		return l
	}
	few := universe(t.L[0])
	l = append(l, mapped())
	for _, a := range few {
		l = append(l, mapped(entry(1, a)))
	}
	if t.L[0].Kind != api.DataValue {
		return l
	}
	for _, a := range few {
		l = append(l, mapped(entry(2, a)))
		for _, b := range few {
			l = append(l, mapped(entry(1, a), entry(2, b)))
		}
	}
	return l
}

// TestWhatCanBe: P4.6 and P4.9: of all changes of a few data, those can be composed of which one can come behind the other, and what comes of them does what both do.
func TestWhatCanBe(t *testing.T) {
	for _, x := range []api.DataType{values, sets, toValues, toSets, kind(api.DataTuple, values, sets), kind(api.DataMap, toSets)} {
		all := universe(x)
		var changes []api.Change
		for _, a := range all {
			for _, b := range all {
				changes = append(changes, must(change.Diff(x, a, b)))
			}
		}
		for _, a := range changes {
			for _, b := range changes {
				oneBehindTheOther(t, x, all, a, b)
			}
		}
	}
}

func oneBehindTheOther(t *testing.T, x api.DataType, all []api.Data, a, b api.Change) {
	c, e := change.Compose(x, a, b)
	can := api.ErrClash
	for _, d := range all {
		one, err := change.Apply(x, d, a)
		if err != api.OK {
			continue
		}
		two, err := change.Apply(x, one, b)
		if err != api.OK {
			continue
		}
		can = api.OK
		got, err := change.Apply(x, d, c)
		isData(t, got, err, two, api.OK)
	}
	if e != can || t.Failed() {
		t.Fatalf("%v, %v: %d, not %d", a, b, e, can)
	}
}
