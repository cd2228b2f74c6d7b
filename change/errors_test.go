package change_test

import (
	"testing"

	"deltaworks/api"
	"deltaworks/change"
)

// refusesData fails unless a datum is refused: with the zero datum, and the error.
func refusesData(t *testing.T, want api.Errno) func(d api.Data, e api.Errno) {
	return func(d api.Data, e api.Errno) {
		t.Helper()
		isData(t, d, e, api.Data{}, want)
	}
}

func refusesChange(t *testing.T, want api.Errno) func(c api.Change, e api.Errno) {
	return func(c api.Change, e api.Errno) {
		t.Helper()
		isChange(t, c, e, api.Change{}, want)
	}
}

// TestInvalidTypes: P4.1 to P4.7: no function takes a type that is not valid, whatever else it is given.
func TestInvalidTypes(t *testing.T) {
	noData, noChange := refusesData(t, api.ErrArg), refusesChange(t, api.ErrArg)
	for i, x := range invalidTypes() {
		d, c := api.Data{Kind: x.Kind}, api.Change{Kind: x.Kind}
		if is, e := change.Is(x, d); is || e != api.ErrArg {
			t.Errorf("Is: %t, %d", is, e)
		}
		if is, e := change.Fits(x, c); is || e != api.ErrArg {
			t.Errorf("Fits: %t, %d", is, e)
		}
		noData(change.Empty(x))
		noChange(change.None(x))
		noData(change.Apply(x, d, c))
		noChange(change.Diff(x, d, d))
		noChange(change.Invert(x, c))
		noChange(change.Compose(x, c, c))
		noChange(change.Merge(x, c, c))
		if t.Failed() {
			t.Fatal(i)
		}
	}
}

// TestInvalidData: P4.3 and P4.4: data must be of the type.
func TestInvalidData(t *testing.T) {
	noData, noChange := refusesData(t, api.ErrArg), refusesChange(t, api.ErrArg)
	for i, x := range dataCases() {
		right, none := must(change.Empty(x.t)), must(change.None(x.t))
		for k, d := range x.not {
			noData(change.Apply(x.t, d, none))
			noChange(change.Diff(x.t, d, right))
			noChange(change.Diff(x.t, right, d))
			noChange(change.Diff(x.t, d, d))
			if t.Failed() {
				t.Fatal(i, k)
			}
		}
	}
}

// TestInvalidChanges: P4.3 and P4.5 to P4.7: changes must be of the type.
func TestInvalidChanges(t *testing.T) {
	noData, noChange := refusesData(t, api.ErrArg), refusesChange(t, api.ErrArg)
	for i, x := range changeCases() {
		d, none := must(change.Empty(x.t)), must(change.None(x.t))
		for k, c := range x.not {
			noData(change.Apply(x.t, d, c))
			noChange(change.Invert(x.t, c))
			for _, of := range []func(api.DataType, api.Change, api.Change) (api.Change, api.Errno){change.Compose, change.Merge} {
				noChange(of(x.t, c, none))
				noChange(of(x.t, none, c))
				noChange(of(x.t, c, c))
			}
			if t.Failed() {
				t.Fatal(i, k)
			}
		}
	}
}

// TestInvalidBeforeTheRest: R1: what is not of the type is refused first, wherever it stands.
func TestInvalidBeforeTheRest(t *testing.T) {
	noData, noChange := refusesData(t, api.ErrArg), refusesChange(t, api.ErrArg)
	two := kind(api.DataTuple, values, values)
	noData(change.Apply(two, tupled(valued(num(1)), valued(num(2))), parts(becomes(3, 4), becomes(2, 2))))
	noData(change.Apply(two, tupled(valued(num(1)), valued(str("a"))), parts(becomes(3, 4), api.Change{})))
	noData(change.Apply(kind(api.DataTuple, bags, values), tupled(bagOf(3998), valued(num(1))), parts(bagAdds([2]int{-1, 1}), becomes(1, 1))))
	noChange(change.Compose(two, parts(becomes(1, 2), api.Change{}), parts(becomes(1, 2), becomes(1, 1))))
	noChange(change.Merge(two, parts(becomes(1, 2), becomes(1, 1)), parts(becomes(1, 3), api.Change{})))
	noChange(change.Compose(toCounts, keys(put(1, 1), in(2, 0)), keys(put(1, 1))))
	noChange(change.Merge(toCounts, keys(put(1, 1)), keys(put(1, 2), in(2, 0))))
}
