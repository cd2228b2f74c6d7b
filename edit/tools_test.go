package edit_test

import (
	"math/rand"
	"slices"
	"strconv"
	"strings"
	"testing"

	"deltaworks/api"
	"deltaworks/value"
)

// num, text, tuple and tag return values.
func num(n int) api.Value            { return api.Value{N: n} }
func text(s string) api.Value        { return api.Value{Kind: api.ValueText, S: s} }
func tuple(l ...api.Value) api.Value { return api.Value{Kind: api.ValueTuple, L: l} }

func tag(n int, v api.Value) api.Value {
	return api.Value{Kind: api.ValueTag, N: n, L: []api.Value{v}}
}

func list(l ...api.Value) []api.Value { return l }
func times[T any](n int, x T) []T     { return slices.Repeat([]T{x}, n) }

// words returns a text as words; many returns one word so many times.
func words(s string) (l []api.Value) {
	for _, c := range []byte(s) {
		l = append(l, num(int(c)))
	}
	return l
}

func many(n int) []api.Value { return words(strings.Repeat("a", n)) }

// keep, drop and put return pieces, and pieces an edit of them.
func keep(n int) api.EditPiece                  { return api.EditPiece{Kind: api.EditKeep, N: n} }
func drop(l ...api.Value) api.EditPiece         { return api.EditPiece{Kind: api.EditDrop, L: l} }
func put(l ...api.Value) api.EditPiece          { return api.EditPiece{Kind: api.EditPut, L: l} }
func pieces(l ...api.EditPiece) []api.EditPiece { return l }

// ed returns an edit as the document tells it: "=2 -ab +x" keeps two values, drops a and b, and puts x.
func ed(s string) (e []api.EditPiece) {
	for _, w := range strings.Fields(s) {
		switch w[0] {
		case '-':
			e = append(e, drop(words(w[1:])...))
		case '+':
			e = append(e, put(words(w[1:])...))
		default:
			n, err := strconv.Atoi(w[1:])
			if err != nil {
				panic(err)
			}
			e = append(e, keep(n))
		}
	}
	return e
}

// tower returns a value of so many words and tuples one within the other.
func tower(n int) api.Value {
	v := num(1)
	for range n - 1 {
		v = tuple(v)
	}
	return v
}

// invalidValues returns values that are not valid, one of which holds itself.
func invalidValues() []api.Value {
	loop := []api.Value{{Kind: api.ValueTuple}}
	loop[0].L = loop
	return list(num(api.WordLow-1), num(api.WordHigh+1), text("\n"), api.Value{Kind: 4}, api.Value{Kind: -1}, api.Value{S: "a"}, tag(8, num(1)), api.Value{Kind: api.ValueTag}, tower(7), tuple(times(9, num(0))...), tuple(num(1), text("\x7f")), loop[0])
}

// someValues returns valid values of all kinds, no two of them the same.
func someValues() []api.Value {
	return list(num(0), num(1), num(api.WordLow), num(api.WordHigh), text(""), text("1"), text("a"), tuple(), tuple(num(1)), tuple(num(1), tuple(text("a"))), tag(0, num(1)), tag(1, num(1)), tag(1, tuple(num(1))), tower(6))
}

func sameValue(a, b api.Value) bool {
	return a.Kind == b.Kind && a.N == b.N && a.S == b.S && slices.EqualFunc(a.L, b.L, sameValue)
}

func sameList(a, b []api.Value) bool { return slices.EqualFunc(a, b, sameValue) }

// same compares edits, where an edit of no pieces is an empty one.
func same(e, f []api.EditPiece) bool {
	return slices.EqualFunc(e, f, func(x, y api.EditPiece) bool {
		return x.Kind == y.Kind && x.N == y.N && sameList(x.L, y.L)
	})
}

// told returns an edit as a text, for messages.
func told(e []api.EditPiece) string {
	var b strings.Builder
	for _, p := range e {
		b.WriteString(" " + [...]string{"=", "-", "+"}[p.Kind])
		if p.Kind == api.EditKeep {
			b.WriteString(strconv.Itoa(p.N))
		}
		b.WriteString(toldList(p.L))
	}
	return "[" + b.String() + " ]"
}

func toldList(l []api.Value) string {
	var b strings.Builder
	for _, v := range l {
		b.WriteString(must(value.Text(v)) + ";")
	}
	return b.String()
}

// must returns what is returned without an error.
func must[T any](x T, e api.Errno) T {
	if e != api.OK {
		panic("error " + strconv.Itoa(int(e)))
	}
	return x
}

// model is an edit, told by its lists: at says for each value of to which one of from it is, or -1 if it is put.
type model struct {
	from, to []api.Value
	at       []int
}

// edit returns a model as an edit: between two kept values all that is dropped, and then all that is put.
func (m model) edit() (e []api.EditPiece) {
	next, done := 0, 0
	for k := 0; k <= len(m.to); k++ {
		kept := len(m.from)
		if k < len(m.to) {
			kept = m.at[k]
		}
		if kept < 0 {
			continue
		}
		if kept > next {
			e = append(e, drop(m.from[next:kept]...))
		}
		if k > done {
			e = append(e, put(m.to[done:k]...))
		}
		if k < len(m.to) && len(e) > 0 && e[len(e)-1].Kind == api.EditKeep {
			e[len(e)-1].N++
		} else if k < len(m.to) {
			e = append(e, keep(1))
		}
		next, done = kept+1, k+1
	}
	return e
}

// modelOf returns an edit of a list as a model, and whether it is one.
func modelOf(e []api.EditPiece, from []api.Value) (m model, ok bool) {
	m.from = from
	i := 0
	for _, p := range e {
		n := p.N
		if p.Kind == api.EditDrop {
			n = len(p.L)
		}
		if i+n > len(from) || p.Kind == api.EditDrop && !sameList(p.L, from[i:i+n]) {
			return m, false
		}
		for range p.N {
			m.to, m.at = append(m.to, from[i]), append(m.at, i)
			i++
		}
		if p.Kind == api.EditDrop {
			i += n
		} else {
			m.to, m.at = append(m.to, p.L...), append(m.at, times(len(p.L), -1)...)
		}
	}
	return m, i == len(from)
}

// anyValue returns one of few values, anyList a list of at most most of them, and anyModel an edit of a list.
func anyValue(r *rand.Rand) api.Value {
	l := someValues()
	return l[r.Intn(len(l))]
}

func anyList(r *rand.Rand, most int) (l []api.Value) {
	some := list(anyValue(r), anyValue(r), anyValue(r))
	for range r.Intn(most + 1) {
		l = append(l, some[r.Intn(len(some))])
	}
	return l
}

func anyModel(r *rand.Rand, from []api.Value) model {
	m := model{from: from}
	for i := range len(from) + 1 {
		for r.Intn(3) == 0 {
			m.to, m.at = append(m.to, anyValue(r)), append(m.at, -1)
		}
		if i < len(from) && r.Intn(3) > 0 {
			m.to, m.at = append(m.to, from[i]), append(m.at, i)
		}
	}
	return m
}

// anyTimes gives a source of numbers to use, many times.
func anyTimes(seed int64, use func(r *rand.Rand)) {
	r := rand.New(rand.NewSource(seed))
	for range 2000 {
		use(r)
	}
}

// isEdit fails unless an edit is returned without an error.
func isEdit(t *testing.T, got []api.EditPiece, e api.Errno, want []api.EditPiece) {
	t.Helper()
	if e != api.OK || !same(got, want) {
		t.Fatalf("%s, %d, not %s", told(got), e, told(want))
	}
}
