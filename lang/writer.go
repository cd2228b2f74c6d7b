package lang

import (
	"deltaworks/api"
	"deltaworks/refuse"
)

// deepMost is how many expressions, one within the other, are looked at: one can be a part of itself.
const deepMost = 1 << 16

// parts are a list of parts of an expression, as it lies in memory.
type parts struct {
	first *api.Exp
	many  int
}

// writer writes a text. Parts that were found to be right once the text was too long are not looked at again: few of them can be very many, where several expressions have the same ones.
type writer struct {
	forms [14]form
	text  []byte
	right map[parts]bool
}

// written returns the text that whole writes, which has refused what cannot be read before it is asked whether the text is too long.
func written(whole func(*writer)) (string, api.Errno) {
	return refuse.Attempt(func() string {
		w := &writer{forms: forms(), right: map[parts]bool{}}
		whole(w)
		refuse.Unless(!w.isLong(), api.ErrLong)
		return string(w.text)
	})
}

func (w *writer) isLong() bool { return len(w.text) > api.LangText }

// put puts pieces behind the text; of one that is too long already nothing more is needed.
func (w *writer) put(pieces ...string) {
	for _, s := range pieces {
		if !w.isLong() {
			w.text = append(w.text, s...)
		}
	}
}

// putList writes a list, with something between each two elements.
func putList[T any](w *writer, between string, l []T, element func(T)) {
	for i, x := range l {
		if i > 0 {
			w.put(between)
		}
		element(x)
	}
}

// putBraces writes a list in braces.
func putBraces[T any](w *writer, between string, l []T, element func(T)) {
	w.put("{ ")
	putList(w, between, l, element)
	if len(l) > 0 {
		w.put(" ")
	}
	w.put("}")
}

// needReadable refuses what cannot be read.
func needReadable(so bool) { refuse.Unless(so, api.ErrArg) }

// exp writes an expression.
func (w *writer) exp(x api.Exp) {
	var put func(x api.Exp, deep int)
	put = func(x api.Exp, deep int) {
		needReadable(x.Op >= 0 && x.Op < len(w.forms) && deep <= deepMost)
		f := w.forms[x.Op]
		needReadable(f.isRight(x))
		w.put(f.head(f, x))
		if f.parts.most == 0 {
			return
		}
		w.put("(")
		w.once(x.L, func() {
			putList(w, ", ", x.L, func(part api.Exp) { put(part, deep+1) })
		})
		w.put(")")
	}
	put(x, 1)
}

// once writes parts, unless nothing can come of it any more.
func (w *writer) once(l []api.Exp, write func()) {
	if len(l) == 0 {
		return
	}
	at := parts{&l[0], len(l)}
	if w.right[at] {
		return
	}
	write()
	if w.isLong() {
		w.right[at] = true
	}
}
