package lang_test

import (
	"strings"
	"testing"

	"deltaworks/api"
	"deltaworks/lang"
	"deltaworks/zset"
)

// isNoted fails unless what is written of something is its pieces with the chapter's blanks, and whether it is read, also with other blanks, as it is.
func isNoted[T any](t *testing.T, m maker, x T, p *pieces, write func(T) (string, api.Errno), read func(string) (T, int, api.Errno)) {
	t.Helper()
	isWritten(t, write, x, p.written(), api.OK)
	isRead(t, read, p.written(), x)
	for _, few := range []int{0, 1, 3} {
		isRead(t, read, spaced(m.Rand, p.tokens(), few), x)
	}
	if t.Failed() {
		t.FailNow()
	}
}

// TestThereAndBack: P7.1, P7.2 and P7.4: what is written, and read, of any programs, expressions and collections.
func TestThereAndBack(t *testing.T) {
	anyTimes(1, 4000, func(m maker) {
		p := m.prog()
		isNoted(t, m, p, piecesOf(p, (*pieces).prog), lang.Write, lang.Read)
		x := m.exp(1 + m.Intn(5))
		isNoted(t, m, x, piecesOf(x, (*pieces).exp), lang.WriteExp, lang.ReadExp)
		z := m.zset()
		isNoted(t, m, z, piecesOf(z, (*pieces).zset), lang.WriteZset, lang.ReadZset)
	})
}

// TestRowsInAnyOrder: P7.1: rows of a collection come in any order, and more than once.
func TestRowsInAnyOrder(t *testing.T) {
	anyTimes(2, 4000, func(m maker) {
		l := m.items()
		want, _ := zset.Make(l)
		isRead(t, lang.ReadZset, spaced(m.Rand, piecesOf(l, func(p *pieces, l []api.Item) { p.zset(l) }).tokens(), 1), want)
	})
}

// TestOneLine: P7.2: of expressions and collections no line feed is written, of a program as many as it has lines.
func TestOneLine(t *testing.T) {
	anyTimes(3, 1000, func(m maker) {
		x, _ := lang.WriteExp(m.exp(4))
		z, _ := lang.WriteZset(m.zset())
		p := m.prog()
		s, _ := lang.Write(p)
		lines := len(p.Funs) + len(p.Inputs) + len(p.Views) + min(1, len(p.Outs))
		if strings.Contains(x+z, "\n") || strings.Count(s, "\n") != lines || lines > 0 && !strings.HasSuffix(s, "\n") {
			t.Fatalf("%q, %q, %q", x, z, s)
		}
	})
}
