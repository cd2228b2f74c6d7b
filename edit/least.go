package edit

// place is how far two lists are gone through.
type place struct{ a, b int }

func (p place) drop() place { return place{p.a + 1, p.b} }
func (p place) put() place  { return place{p.a, p.b + 1} }
func (p place) keep() place { return p.drop().put() }

// least returns the steps of the least edit that makes b of a; both lists are told by the steps that put their values.
func least(a, b []step) []step {
	cost := costs(a, b)
	drops := turned(a)
	var made []step
	var at place
	for at.a < len(a) && at.b < len(b) {
		switch {
		case a[at.a] == b[at.b]:
			made = append(made, kept())
			at = at.keep()
		case cost(at.drop()) <= cost(at.put()):
			made = append(made, drops[at.a])
			at = at.drop()
		default:
			made = append(made, b[at.b])
			at = at.put()
		}
	}
	return joined(made, drops[at.a:], b[at.b:])
}

// costs returns what tells the least cost of an edit of what is left from a place on. Each place is looked at once: there are far more ways than places.
func costs(a, b []step) func(place) int {
	found := map[place]int{}
	var cost func(place) int
	cost = func(at place) int {
		if at.a == len(a) || at.b == len(b) {
			return len(a) - at.a + len(b) - at.b
		}
		if n, ok := found[at]; ok {
			return n
		}
		n := 0
		if a[at.a] == b[at.b] {
			n = cost(at.keep())
		} else {
			n = 1 + min(cost(at.drop()), cost(at.put()))
		}
		found[at] = n
		return n
	}
	return cost
}
