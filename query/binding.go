package query

import "deltaworks/api"

// binding is for which numbers the variables of a clause stand, as far as they are known, which is said by bits.
type binding struct {
	known   int
	numbers [api.VarMost]int
}

// number returns the number that a term stands for, if it is known.
func (b binding) number(t term) (n int, known bool) {
	if t.variable < 0 {
		return t.number, true
	}
	return b.numbers[t.variable], b.known>>t.variable&1 == 1
}

// row returns what terms stand for, and the places at which that is known; behind the last term it is.
func (b binding) row(l []term) (r row, places int) {
	places = everywhere
	for i, t := range l {
		n, known := b.number(t)
		if !known {
			places &^= 1 << i
		}
		r[i] = n
	}
	return r, places
}

// count returns how many terms are not known, and how many are.
func (b binding) count(l []term) (unknown, known int) {
	for _, t := range l {
		if _, is := b.number(t); is {
			known++
		}
	}
	return len(l) - known, known
}

// with returns a binding in which terms stand for the parts of a row, if they can.
func (b binding) with(l []term, r row) (made binding, can bool) {
	for i, t := range l {
		n, known := b.number(t)
		switch {
		case !known:
			b.known |= 1 << t.variable
			b.numbers[t.variable] = r[i]
		case n != r[i]:
			return b, false
		}
	}
	return b, true
}

// only returns what a binding says of some variables (as bits).
func (b binding) only(vars int) binding {
	b.known &= vars
	for n := range b.numbers {
		if b.known>>n&1 == 0 {
			b.numbers[n] = 0
		}
	}
	return b
}
