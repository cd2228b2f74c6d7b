package lang_test

import (
	"testing"

	"deltaworks/api"
	"deltaworks/lang"
	"deltaworks/zset"
)

// endsEarly fails unless a text of tokens that ends ahead of one of them is refused at its end, or is one itself, which is written and read as the same.
func endsEarly[T any](t *testing.T, m maker, tokens []string, read func(string) (T, int, api.Errno), write func(T) (string, api.Errno), whole *int) {
	t.Helper()
	for n := range tokens {
		s := spaced(m.Rand, tokens[:n], 2)
		x, at, e := read(s)
		if e == api.OK {
			*whole++
			again, err := write(x)
			if err != api.OK || at != 0 {
				t.Fatalf("%q: %d, %d", s, at, err)
			}
			isRead(t, read, again, x)
		} else if isRefused(t, read, s, len(s), api.ErrForm); t.Failed() {
			return
		}
	}
}

// TestEndsEarly: P7.4: texts that end ahead of their last tokens.
func TestEndsEarly(t *testing.T) {
	progs, exps, zsets := 0, 0, 0
	anyTimes(6, 500, func(m maker) {
		endsEarly(t, m, piecesOf(m.prog(), (*pieces).prog).tokens(), lang.Read, lang.Write, &progs)
		endsEarly(t, m, piecesOf(m.exp(4), (*pieces).exp).tokens(), lang.ReadExp, lang.WriteExp, &exps)
		endsEarly(t, m, piecesOf(m.zset(), (*pieces).zset).tokens(), lang.ReadZset, lang.WriteZset, &zsets)
	})
	if progs < 500 || exps != 0 || zsets != 0 { // an expression, or a collection, has no other one at its beginning
		t.Error(progs, exps, zsets)
	}
}

// TestReadWrittenRead: P7.4: what is read is written, and read, as the same; and of one program, expression or collection one text is written, however the text was that it was read of.
func TestReadWrittenRead(t *testing.T) {
	anyTimes(7, 2000, func(m maker) {
		l := m.items()
		for i := range l {
			l[i].N %= 1000
		}
		want, _ := zset.Make(l)
		var first string
		for i := range 3 {
			m.Shuffle(len(l), func(i, k int) { l[i], l[k] = l[k], l[i] })
			z, _, e := lang.ReadZset(spaced(m.Rand, piecesOf(api.Zset(l), (*pieces).zset).tokens(), i))
			s, err := lang.WriteZset(z)
			if e != api.OK || err != api.OK || i > 0 && s != first {
				t.Fatalf("%v: %d, %d, %q", l, e, err, s)
			}
			first = s
			isRead(t, lang.ReadZset, s, want)
		}
	})
}
